package offset_test

import (
	"math/rand"
	"testing"

	"campanile/clock"
	"campanile/offset"
)

const (
	big   = 1<<63 - 1
	small = -1 << 63
)

// P13.1: a measure.
func TestMeasure(t *testing.T) {
	for i, x := range []struct {
		mine, theirs int64
		err, most    int
		want         int
	}{
		{10, 30, 0, 0, 20}, {30, 10, 0, 0, -20}, {10, 30, 3, 5, 23}, {10, 30, -3, 5, 17}, {10, 30, 9, 5, 25}, {10, 30, -9, 5, 15}, {10, 30, 9, 0, 20}, {10, 30, 9, -4, 20}, {0, 0, small, -4, 0},
		{0, 0, 5000, 5000, 1000}, {0, 0, -5000, big, -1000}, {0, 0, big, 1000, 1000}, {0, 0, small, 999, -999},
		{0, 30000, 0, 0, 30000}, {0, 30001, 0, 0, 30000}, {0, 29999, 3, 3, 30000}, {0, 30001, -3, 3, 29998}, {0, -30000, 0, 0, -30000}, {0, -30001, 0, 0, -30000}, {0, -30001, 2, 2, -29999},
		{small, big, 0, 0, 30000}, {big, small, 0, 0, -30000}, {big, 1e12, 0, 0, 0}, {1e12, 1e13, 0, 0, 0}, {-1e12, small, 1, 9, 1}, {1e12 - 7, big, 0, 0, 7}, {small, -1e12 + 5, 0, 0, 5},
	} {
		if got := offset.Measure(x.mine, x.theirs, x.err, x.most); got != x.want {
			t.Errorf("%d: %d, not %d", i, got, x.want)
		}
	}
}

// P13.1: within a guard.
func TestWithin(t *testing.T) {
	for i, x := range []struct {
		mine, theirs int64
		guard        int
		want         bool
	}{
		{5, 5, 0, true}, {5, 6, 0, false}, {6, 5, 0, false}, {5, 8, 3, true}, {8, 5, 3, true}, {5, 9, 3, false}, {9, 5, 3, false}, {5, 5, -1, false}, {5, 5, small, false}, {-5, 5, 10, true}, {-5, 5, 9, false}, {5, -5, 9, false},
		{small, big, 4000, false}, {big, small, big, false}, {big, big, 0, true}, {0, big, big, true}, {-1, big, big, false}, {small, -1, big, true}, {small, 0, big, false},
	} {
		if got := offset.Within(x.mine, x.theirs, x.guard); got != x.want {
			t.Errorf("%d: %v", i, got)
		}
	}
}

func want(t *testing.T, p *offset.Proof, i int, n int64, known bool) {
	t.Helper()
	if got, ok := p.Bound(i); got != n || ok != known {
		t.Errorf("%d: %d %v, not %d %v", i, got, ok, n, known)
	}
}

// P13.2: of how many nodes.
func TestNew(t *testing.T) {
	for nodes, top := range map[int]int{2: 2, 1: 1, 0: 1, -1: 1, small: 1, 16: 16, 17: 16, big: 16} {
		p := offset.New(nodes)
		for i := range 18 {
			want(t, p, i, 0, i == 0)
			p.Heard(i, 0, 7)
		}
		p.Slot()
		for i := range 18 {
			known := i < top
			if i == 0 || !known {
				want(t, p, i, 0, known)
			} else {
				want(t, p, i, 8, true)
			}
		}
		want(t, p, -1, 0, false)
		want(t, p, small, 0, false)
		want(t, p, big, 0, false)
	}
}

// P13.2: what is known grows, and goes on.
func TestProof(t *testing.T) {
	p := offset.New(4)
	p.Heard(1, 0, 3)
	p.Slot()
	want(t, p, 0, 0, true)
	want(t, p, 1, 4, true)
	p.Heard(2, 1, 5)
	p.Slot()
	want(t, p, 1, 5, true)
	want(t, p, 2, 10, true)
	p.Heard(1, 2, 0)
	want(t, p, 1, 10, true)
	p.Heard(1, 0, -5)
	want(t, p, 1, 0, true)
	p.Heard(1, 0, 1000)
	want(t, p, 1, 1000, true)
	p.Heard(1, 0, 1001)
	want(t, p, 1, 1000, true)
	p.Heard(1, 0, small)
	want(t, p, 1, 0, true)
	p.Heard(1, 0, big)
	want(t, p, 1, 1000, true)
	for _, x := range [][2]int{{0, 1}, {1, 1}, {1, 4}, {1, -1}, {4, 1}, {-1, 0}, {big, 0}, {1, small}} {
		p.Heard(x[0], x[1], 3)
		want(t, p, 0, 0, true)
		want(t, p, 1, 1000, true)
		want(t, p, 2, 10, true)
	}
	p.Heard(2, 3, 1)
	want(t, p, 2, 0, false)
	p.Slot()
	want(t, p, 2, 0, false)
	p.Lose(1)
	want(t, p, 1, 0, false)
	p.Heard(3, 1, 1)
	want(t, p, 3, 0, false)
	for _, i := range []int{0, -1, 4, big, small} {
		p.Lose(i)
		want(t, p, 0, 0, true)
	}
}

// P13.2: nil.
func TestNil(t *testing.T) {
	var p *offset.Proof
	p.Slot()
	p.Heard(1, 0, 1)
	p.Lose(1)
	want(t, p, 0, 0, false)
}

// P13.3: clocks that drift, and are put right, stay within their bounds.
func TestBounds(t *testing.T) {
	rnd := rand.New(rand.NewSource(13))
	const nodes = 6
	for range 40 {
		p := offset.New(nodes)
		var clocks []*clock.Clock
		for i := range nodes {
			clocks = append(clocks, clock.New())
			if i > 0 {
				clocks[i].Put(rnd.Int63n(200) - 100)
			}
		}
		for range 1000 {
			for i := 1; i < nodes; i++ {
				clocks[i].Slot(rnd.Intn(201) - 100)
			}
			p.Slot()
			i, by, err := 1+rnd.Intn(nodes-1), rnd.Intn(nodes), rnd.Intn(9)
			if i == by || rnd.Intn(20) > 0 {
				continue
			}
			clocks[i].Move(offset.Measure(clocks[i].Off(), clocks[by].Off(), rnd.Intn(40)-20, err))
			p.Heard(i, by, err)
			for i := range nodes {
				if n, ok := p.Bound(i); ok && (clocks[i].Off() > n || clocks[i].Off() < -n) {
					t.Fatal(i, clocks[i].Off(), n)
				}
			}
		}
	}
}
