package topo_test

import (
	"math/rand"
	"slices"
	"testing"

	"campanile/api"
	"campanile/topo"
)

const (
	big   = 1<<63 - 1
	small = -1 << 63
)

func says(t *testing.T, g *topo.Graph, me int, pairs ...int) {
	t.Helper()
	var l []api.Link
	for i := 0; i < len(pairs); i += 2 {
		l = append(l, api.Link{A: me, B: pairs[i], Q: pairs[i+1]})
	}
	if err := g.Report(me, l); err != api.OK {
		t.Error(me, l, err)
	}
}

// P20.1: how many nodes.
func TestNew(t *testing.T) {
	for nodes, want := range map[int]int{1: 1, 0: 1, -1: 1, small: 1, 5: 5, 16: 16, 17: 16, big: 16} {
		g := topo.New(nodes)
		if g.Nodes() != want || len(g.Near(0, 0)) != 0 || g.Quality(0, 0) != 0 {
			t.Error(nodes, g.Nodes())
		}
		if a, b := g.Report(want-1, nil), g.Report(want, nil); a != api.OK || b != api.ErrArg {
			t.Error(nodes, a, b)
		}
	}
}

// P20.1: what is refused changes nothing.
func TestReportErrors(t *testing.T) {
	g := topo.New(4)
	says(t, g, 0, 1, 9, 2, 8)
	says(t, g, 1, 0, 7)
	ok := api.Link{A: 0, B: 2, Q: 5}
	for i, x := range []struct {
		me int
		l  []api.Link
	}{
		{-1, nil}, {4, nil}, {16, nil}, {big, nil}, {0, make([]api.Link, 17)}, {0, []api.Link{ok, {A: 1, B: 3, Q: 5}}}, {0, []api.Link{ok, {A: 0, B: 0, Q: 5}}}, {0, []api.Link{ok, {A: 0, B: 4, Q: 5}}}, {0, []api.Link{ok, {A: 0, B: -1, Q: 5}}}, {0, []api.Link{ok, {A: 0, B: small, Q: 5}}},
		{0, []api.Link{ok, {A: 0, B: 3, Q: 256}}}, {0, []api.Link{ok, {A: 0, B: 3, Q: -1}}}, {0, []api.Link{ok, ok}}, {0, []api.Link{ok, {A: 0, B: 2, Q: 6}}}, {0, []api.Link{{A: 0, B: 3}, {A: 0, B: 3, Q: 6}}},
	} {
		if err := g.Report(x.me, x.l); err != api.ErrArg || g.Quality(0, 1) != 7 || g.Quality(0, 2) != 0 {
			t.Error(i, err, g.Quality(0, 1))
		}
	}
	says(t, g, 2, 0, 255)
	if g.Quality(0, 2) != 8 {
		t.Error(g.Quality(0, 2))
	}
}

// P20.1, P20.2: the lesser one; what was said before is forgotten.
func TestQuality(t *testing.T) {
	g := topo.New(5)
	says(t, g, 0, 1, 9)
	if g.Quality(0, 1) != 0 || g.Quality(1, 0) != 0 {
		t.Error("one did not say it")
	}
	says(t, g, 1, 0, 7, 2, 255, 3, 0)
	says(t, g, 2, 1, 254)
	says(t, g, 3, 1, 50)
	for _, x := range [][3]int{{0, 1, 7}, {1, 0, 7}, {1, 2, 254}, {2, 1, 254}, {1, 3, 0}, {0, 2, 0}, {1, 1, 0}, {0, 5, 0}, {5, 0, 0}, {-1, 0, 0}, {0, -1, 0}, {16, 17, 0}, {big, small, 0}} {
		if q := g.Quality(x[0], x[1]); q != x[2] {
			t.Error(x, q)
		}
	}
	for _, x := range []struct {
		a, least int
		want     []int
	}{{1, 0, []int{0, 2}}, {1, small, []int{0, 2}}, {1, 7, []int{0, 2}}, {1, 8, []int{2}}, {1, 254, []int{2}}, {1, 255, nil}, {1, big, nil}, {0, 1, []int{1}}, {3, 0, nil}, {4, 0, nil}, {5, 0, nil}, {-1, 0, nil}, {big, 0, nil}} {
		if l := g.Near(x.a, x.least); !slices.Equal(l, x.want) {
			t.Error(x, l)
		}
	}
	says(t, g, 1, 2, 1)
	if l := g.Near(1, -1); !slices.Equal(l, []int{2}) {
		t.Error(l)
	}
	says(t, g, 1, 2, 3)
	if g.Quality(0, 1) != 0 || g.Quality(1, 2) != 3 {
		t.Error(g.Quality(0, 1), g.Quality(1, 2))
	}
	says(t, g, 1)
	if len(g.Near(1, 0)) != 0 {
		t.Error(g.Near(1, 0))
	}
}

// P20.1: what a node said, and what was said of it.
func TestForget(t *testing.T) {
	g := topo.New(3)
	fill := func() {
		says(t, g, 0, 1, 5, 2, 6)
		says(t, g, 1, 0, 5, 2, 7)
		says(t, g, 2, 0, 6, 1, 7)
	}
	fill()
	for _, node := range []int{-1, 3, 16, big, small} {
		g.Forget(node)
	}
	if g.Quality(0, 1) != 5 || g.Quality(0, 2) != 6 || g.Quality(1, 2) != 7 {
		t.Error("forgotten")
	}
	g.Forget(1)
	if g.Quality(0, 1) != 0 || g.Quality(0, 2) != 6 || g.Quality(1, 2) != 0 {
		t.Error("not forgotten")
	}
	says(t, g, 1, 0, 9, 2, 9)
	if len(g.Near(1, 0)) != 0 {
		t.Error("what was said of it is not forgotten")
	}
	fill()
	g.Forget(1)
	says(t, g, 0, 1, 5)
	if g.Quality(0, 1) != 0 {
		t.Error("what it said is not forgotten")
	}
}

// P20.1, P20.2: nil.
func TestNil(t *testing.T) {
	var g *topo.Graph
	g.Forget(0)
	if g.Report(0, nil) != api.ErrArg || g.Quality(0, 1) != 0 || len(g.Near(0, 0)) != 0 || g.Nodes() != 0 {
		t.Error("a nil graph has something")
	}
}

// P20.3: the same both ways.
func TestBothWays(t *testing.T) {
	rnd := rand.New(rand.NewSource(20))
	g := topo.New(16)
	for range 300 {
		me := rnd.Intn(16)
		var l []api.Link
		for _, b := range rnd.Perm(16)[:rnd.Intn(17)] {
			if b != me {
				l = append(l, api.Link{A: me, B: b, Q: rnd.Intn(256)})
			}
		}
		if err := g.Report(me, l); err != api.OK {
			t.Fatal(err)
		}
		for a := range 16 {
			for b := range 16 {
				if g.Quality(a, b) != g.Quality(b, a) || slices.Contains(g.Near(a, 9), b) != (g.Quality(a, b) >= 9) {
					t.Fatal(a, b)
				}
			}
		}
	}
}
