package alloc_test

import (
	"math/rand"
	"slices"
	"testing"

	"campanile/alloc"
	"campanile/api"
	"campanile/cell"
	"campanile/topo"
	"campanile/tree"
)

const (
	tx    = api.OTx
	rx    = api.ORx
	big   = 1<<63 - 1
	small = -1 << 63
)

func at(slot, channel, opts, peer int) api.Cell {
	return api.Cell{Frame: 1, Slot: slot, Chan: channel, Opts: opts, Peer: peer}
}

// mesh: the tree of so many nodes; each pair of numbers hear each other.
func mesh(t *testing.T, nodes int, pairs ...int) *tree.Tree {
	t.Helper()
	g := topo.New(nodes)
	said := make([][]api.Link, nodes)
	for i := 0; i < len(pairs); i += 2 {
		a, b := pairs[i], pairs[i+1]
		said[a] = append(said[a], api.Link{A: a, B: b, Q: 9})
		said[b] = append(said[b], api.Link{A: b, B: a, Q: 9})
	}
	for me, l := range said {
		if err := g.Report(me, l); err != api.OK {
			t.Fatal(err)
		}
	}
	return tree.Build(g, 1)
}

// P22.1: what cannot be together.
func TestClash(t *testing.T) {
	other := at(3, 1, tx, 2)
	other.Frame = 2
	for i, x := range []struct {
		a, b api.Cell
		x, y int
		want bool
	}{
		{at(3, 1, tx, 2), at(4, 1, tx, 2), 1, 1, false}, {at(3, 1, tx, 2), other, 1, 1, false},
		{at(3, 1, tx, 2), at(3, 2, tx, 4), 1, 3, false}, {at(3, 1, tx, 2), at(3, 2, tx, 4), 1, 1, true}, {at(3, 1, tx, 2), at(3, 1, tx, 4), 1, 3, true}, {at(3, 1, tx, 2), at(3, 1, rx, 4), 1, 3, true},
		{at(3, 1, tx, 2), at(3, 2, tx, 1), 1, 3, true}, {at(3, 1, tx, 3), at(3, 2, tx, 4), 1, 3, true}, {at(3, 1, tx, 2), at(3, 2, tx, 2), 1, 3, true}, {at(3, 1, rx, 2), at(3, 2, rx, 2), 1, 3, true},
		{at(3, 1, tx, api.All), at(3, 2, tx, api.All), 1, 3, false}, {at(3, 1, tx, api.All), at(3, 1, tx, api.All), 1, 3, true}, {at(3, 1, tx, 0), at(3, 2, tx, 0), 1, 3, true},
		{at(3, 1, tx, 3), at(3, 1, rx, 1), 1, 3, false}, {at(3, 1, rx, 3), at(3, 1, tx, 1), 1, 3, false}, {at(3, 1, tx, 3), at(3, 1, rx|api.OTime, 1), 1, 3, false}, {at(3, 1, tx|api.OTime, 3), at(3, 1, rx, 1), 1, 3, false},
		{at(3, 1, tx, 3), at(3, 2, rx, 1), 1, 3, true}, {at(3, 1, tx, 3), at(3, 1, tx, 1), 1, 3, true}, {at(3, 1, rx, 3), at(3, 1, rx, 1), 1, 3, true}, {at(3, 1, tx|rx, 3), at(3, 1, rx, 1), 1, 3, true}, {at(3, 1, tx, 3), at(3, 1, tx|rx, 1), 1, 3, true}, {at(3, 1, tx|rx, 3), at(3, 1, tx|rx, 1), 1, 3, true},
		{at(3, 1, tx, 1), at(3, 1, rx, 1), 1, 1, true}, {at(3, 1, tx, 3), at(3, 1, rx, 2), 1, 3, true}, {at(3, 1, tx, 2), at(3, 1, rx, 1), 1, 3, true},
		{at(3, 1, 0, 2), at(4, 1, tx, 2), 1, 3, true}, {at(3, 1, tx, 2), at(4, 16, tx, 2), 1, 3, true}, {at(3, 1, tx, 2), at(4, 1, tx, 2), -1, 3, true}, {at(3, 1, tx, 2), at(4, 1, tx, 2), 1, 16, true}, {at(3, 1, tx, 2), at(4, 1, tx, 2), api.All, 3, true}, {at(3, 1, tx, 2), at(4, 1, tx, 2), big, small, true},
	} {
		if alloc.Clash(x.a, x.b, x.x, x.y) != x.want || alloc.Clash(x.b, x.a, x.y, x.x) != x.want {
			t.Errorf("%d: %+v of %d, %+v of %d", i, x.a, x.x, x.b, x.y)
		}
	}
}

type schedule = map[int][]api.Cell

// P22.2: what is clean.
func TestClean(t *testing.T) {
	many := make([]api.Cell, 5000)
	for i := range many {
		many[i] = at(i%200, 0, tx, 2)
	}
	var full []api.Cell
	for f := range 4 {
		for s := range 200 {
			full = append(full, api.Cell{Frame: f, Slot: s, Chan: s % 16, Opts: rx, Peer: 15})
		}
	}
	for i, x := range []struct {
		m    schedule
		want bool
	}{
		{nil, true}, {schedule{}, true}, {schedule{3: nil, 99: {}, -1: nil}, true}, {schedule{16: {at(1, 1, tx, 2)}}, false}, {schedule{-1: {at(1, 1, tx, 2)}}, false}, {schedule{api.All: {at(1, 1, tx, 2)}}, false},
		{schedule{0: {at(1, 1, tx, 2)}}, true}, {schedule{0: {at(1, 1, tx, 2), at(1, 2, tx, 3)}}, false}, {schedule{0: {at(1, 1, tx, 2), at(2, 1, tx, 2), at(1, 1, tx, 2)}}, false}, {schedule{0: {at(1, 1, tx, 2), at(2, 1, tx, 2)}}, true},
		{schedule{0: {at(1, 1, tx|api.OShared, 2)}}, false}, {schedule{0: {at(1, 16, tx, 2)}}, false}, {schedule{0: {at(1, 1, tx, 2)}, 2: {at(1, 1, rx, 0)}}, true}, {schedule{0: {at(1, 1, tx, 2)}, 2: {at(1, 2, rx, 0)}}, false},
		{schedule{0: {at(1, 1, tx, 2)}, 3: {at(1, 1, tx, 4)}}, false}, {schedule{0: {at(1, 1, tx, 2)}, 3: {at(1, 2, tx, 4)}}, true}, {schedule{0: {at(1, 1, tx, 2)}, 3: {at(7, 2, tx, 4), at(1, 2, tx, 2)}}, false},
		{schedule{15: {at(9, 0, tx, 1)}, 1: {at(9, 0, rx, 15)}, 5: {at(9, 1, tx, 6)}, 6: {at(9, 1, rx, 5)}, 8: {at(9, 2, tx, 9)}, 9: {at(9, 2, rx|api.OTime, 8)}}, true},
		{schedule{15: {at(9, 0, tx, 1)}, 1: {at(9, 0, rx, 15)}, 5: {at(9, 1, tx, 6)}, 6: {at(9, 1, rx, 5)}, 8: {at(9, 2, tx, 9)}, 9: {at(9, 1, rx|api.OTime, 8)}}, false},
		{schedule{0: many}, false}, {schedule{0: full}, true}, {schedule{0: append(slices.Clone(full), full[17])}, false},
	} {
		if alloc.Clean(x.m) != x.want {
			t.Errorf("%d: %v", i, x.want)
		}
	}
}

func want(t *testing.T, m schedule, none []int, wantM schedule, wantNone ...int) {
	t.Helper()
	if len(m) != len(wantM) || !slices.Equal(none, wantNone) {
		t.Error(m, none)
	}
	for node, l := range wantM {
		if !slices.Equal(m[node], l) {
			t.Error(node, m[node], l)
		}
	}
}

// P22.3: who gets what.
func TestDeal(t *testing.T) {
	pair := mesh(t, 2, 0, 1)
	m, none := alloc.Deal(pair, 1, 2, 1)
	want(t, m, none, schedule{0: {at(0, 0, rx, 1), at(1, 0, tx, 1)}, 1: {at(0, 0, tx, 0), at(1, 0, rx|api.OTime, 0)}})
	m, none = alloc.Deal(pair, 1, 1, 16)
	want(t, m, none, nil, 1)
	m, none = alloc.Deal(mesh(t, 1), 1, 5, 1)
	want(t, m, none, nil)
	// who cannot come to the root is no one that got none
	m, none = alloc.Deal(mesh(t, 4, 2, 3), 1, 5, 1)
	want(t, m, none, nil)
	// slots first; a second channel is for those that have nothing to do with each other
	row := mesh(t, 4, 0, 1, 1, 2, 2, 3)
	m, none = alloc.Deal(row, 1, 4, 2)
	want(t, m, none, schedule{
		0: {at(0, 0, rx, 1), at(1, 0, tx, 1)}, 1: {at(0, 0, tx, 0), at(1, 0, rx|api.OTime, 0), at(2, 0, rx, 2), at(3, 0, tx, 2)},
		2: {at(0, 1, rx, 3), at(1, 1, tx, 3), at(2, 0, tx, 1), at(3, 0, rx|api.OTime, 1)}, 3: {at(0, 1, tx, 2), at(1, 1, rx|api.OTime, 2)},
	})
	m, none = alloc.Deal(row, 1, 4, 1)
	want(t, m, none, schedule{0: {at(0, 0, rx, 1), at(1, 0, tx, 1)}, 1: {at(0, 0, tx, 0), at(1, 0, rx|api.OTime, 0), at(2, 0, rx, 2), at(3, 0, tx, 2)}, 2: {at(2, 0, tx, 1), at(3, 0, rx|api.OTime, 1)}}, 3)
	// of a link that finds no other way nothing stays
	m, none = alloc.Deal(row, 1, 3, 16)
	want(t, m, none, schedule{0: {at(0, 0, rx, 1), at(1, 0, tx, 1)}, 1: {at(0, 0, tx, 0), at(1, 0, rx|api.OTime, 0)}, 2: {at(0, 1, rx, 3), at(1, 1, tx, 3)}, 3: {at(0, 1, tx, 2), at(1, 1, rx|api.OTime, 2)}}, 2)
	star := mesh(t, 5, 0, 3, 0, 1, 0, 4, 0, 2)
	m, none = alloc.Deal(star, 0, 5, 16)
	if !slices.Equal(none, []int{3, 4}) || len(m) != 3 || len(m[0]) != 4 {
		t.Error(m, none)
	}
}

// P22.3: what may not be dealt.
func TestDealArg(t *testing.T) {
	pair := mesh(t, 2, 0, 1)
	for i, x := range []struct {
		t                    *tree.Tree
		frame, length, chans int
	}{{nil, 0, 5, 1}, {pair, -1, 5, 1}, {pair, 4, 5, 1}, {pair, 0, 0, 1}, {pair, 0, 201, 1}, {pair, 0, -1, 1}, {pair, 0, 5, 0}, {pair, 0, 5, 17}, {pair, big, 5, 1}, {pair, 0, big, 1}, {pair, 0, 5, small}} {
		if m, none := alloc.Deal(x.t, x.frame, x.length, x.chans); len(m)+len(none) != 0 {
			t.Error(i, m, none)
		}
	}
	for _, x := range [][3]int{{0, 200, 16}, {3, 2, 1}} {
		if m, none := alloc.Deal(pair, x[0], x[1], x[2]); len(m) != 2 || len(none) != 0 || m[1][0].Frame != x[0] {
			t.Error(x, m, none)
		}
	}
}

// plainDeal deals as the document's words go, without haste.
func plainDeal(t *tree.Tree, frame, length, chans int) (schedule, []int) {
	m, none := schedule{}, []int(nil)
	clash := func(c api.Cell, x int) bool {
		for y := range 16 {
			for _, o := range m[y] {
				if alloc.Clash(o, c, y, x) {
					return true
				}
			}
		}
		return false
	}
	link := func(from, to, opts int) bool {
		for s := range length {
			for ch := range chans {
				a, b := api.Cell{Frame: frame, Slot: s, Chan: ch, Opts: tx, Peer: to}, api.Cell{Frame: frame, Slot: s, Chan: ch, Opts: opts, Peer: from}
				if !clash(a, from) && !clash(b, to) {
					m[from], m[to] = append(m[from], a), append(m[to], b)
					return true
				}
			}
		}
		return false
	}
	for _, node := range t.Order()[1:] {
		p := t.Parents(node)[0]
		if !link(node, p, rx) {
			none = append(none, node)
		} else if !link(p, node, rx|api.OTime) {
			none = append(none, node)
			m[node], m[p] = m[node][:len(m[node])-1], m[p][:len(m[p])-1]
		}
	}
	for node, l := range m {
		slices.SortFunc(l, func(a, b api.Cell) int {
			if cell.Less(a, b) {
				return -1
			}
			return 1
		})
		if len(l) == 0 {
			delete(m, node)
		}
	}
	slices.Sort(none)
	return m, none
}

// P22.3, P22.4: the first places; what is dealt is clean.
func TestRandom(t *testing.T) {
	rnd := rand.New(rand.NewSource(22))
	for range 150 {
		n := 2 + rnd.Intn(15)
		var pairs []int
		for a := range n {
			for b := range a {
				if rnd.Intn(4) == 0 {
					pairs = append(pairs, a, b)
				}
			}
		}
		x := mesh(t, n, pairs...)
		length, chans := 1+rnd.Intn(40), 1+rnd.Intn(4)
		m, none := alloc.Deal(x, 2, length, chans)
		wantM, wantNone := plainDeal(x, 2, length, chans)
		want(t, m, none, wantM, wantNone...)
		if !alloc.Clean(m) {
			t.Error("not clean", m)
		}
		if t.Failed() {
			t.FailNow()
		}
	}
}
