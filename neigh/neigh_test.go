package neigh_test

import (
	"math/rand"
	"slices"
	"testing"

	"campanile/api"
	"campanile/neigh"
)

const (
	big   = 1<<63 - 1
	small = -1 << 63
)

// P16.1: how well.
func TestQuality(t *testing.T) {
	for _, me := range []int{-1, 16, api.All, big, small} {
		if neigh.New(me) != nil {
			t.Error(me)
		}
	}
	table := neigh.New(3)
	for i, want := range []int{32, 60, 85, 107, 126} {
		if table.Heard(5); table.Quality(5) != want {
			t.Error(i, table.Quality(5))
		}
	}
	for i, want := range []int{110, 96, 84, 73, 63} {
		if table.Missed(5); table.Quality(5) != want {
			t.Error(i, table.Quality(5))
		}
	}
	for _, node := range []int{3, -1, 16, api.All, big, small} {
		table.Heard(node)
		if table.Quality(node) != 0 {
			t.Error(node, table.Quality(node))
		}
		table.Missed(node)
	}
	for node := range 16 {
		if q := table.Quality(node); q != 0 && node != 5 {
			t.Error(node, q)
		}
	}
	if table.Missed(0); table.Quality(0) != 0 {
		t.Error(table.Quality(0))
	}
}

// P16.2: the best ones first, so many of them.
func TestReport(t *testing.T) {
	table := neigh.New(3)
	if l := table.Report(0, 16); len(l) != 0 {
		t.Error(l)
	}
	for node, n := range map[int]int{0: 2, 15: 5, 7: 2, 1: 1} {
		for range n {
			table.Heard(node)
		}
	}
	all := []api.Link{{A: 3, B: 15, Q: 126}, {A: 3, B: 0, Q: 60}, {A: 3, B: 7, Q: 60}, {A: 3, B: 1, Q: 32}}
	for _, x := range [][3]int{{0, 16, 4}, {small, big, 4}, {-5, 4, 4}, {32, 9, 4}, {33, 9, 3}, {60, 9, 3}, {61, 9, 1}, {126, 9, 1}, {127, 9, 0}, {big, 9, 0}, {0, 3, 3}, {0, 2, 2}, {61, 2, 1}, {0, 1, 1}, {0, 0, 0}, {0, -1, 0}, {0, small, 0}} {
		if l := table.Report(x[0], x[1]); !slices.Equal(l, all[:x[2]]) {
			t.Error(x, l)
		}
	}
	table.Report(0, 9)[0].Q = 0
	if table.Quality(15) != 126 {
		t.Error("one memory")
	}
}

// P16.2: who is heard ever so little is told, but not who isn't.
func TestLeast(t *testing.T) {
	table := neigh.New(3)
	table.Heard(4)
	for table.Quality(4) > 1 {
		table.Missed(4)
	}
	if l := table.Report(-1, 5); !slices.Equal(l, []api.Link{{A: 3, B: 4, Q: 1}}) {
		t.Error(l)
	}
	table.Missed(4)
	if l := table.Report(-1, 5); len(l) != 0 {
		t.Error(l)
	}
}

// P16.1, P16.2: nil.
func TestNil(t *testing.T) {
	var table *neigh.Table
	table.Heard(1)
	table.Missed(1)
	if table.Quality(1) != 0 || len(table.Report(0, 9)) != 0 {
		t.Error("a nil table has something")
	}
}

// P16.3: 0 to 255, both of which are reached.
func TestFade(t *testing.T) {
	rnd := rand.New(rand.NewSource(16))
	table := neigh.New(0)
	for range 5000 {
		was := table.Quality(1)
		if rnd.Intn(2) == 0 {
			if table.Heard(1); table.Quality(1) != was+(255-was+7)/8 {
				t.Fatal(was, table.Quality(1))
			}
		} else if table.Missed(1); table.Quality(1) != was-(was+7)/8 {
			t.Fatal(was, table.Quality(1))
		}
		if q := table.Quality(1); q < 0 || q > 255 {
			t.Fatal(q)
		}
	}
	for range 60 {
		table.Heard(1)
	}
	if table.Quality(1) != 255 {
		t.Error(table.Quality(1))
	}
	for range 60 {
		table.Missed(1)
	}
	if table.Quality(1) != 0 {
		t.Error(table.Quality(1))
	}
}
