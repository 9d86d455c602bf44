package version_test

import (
	"math/rand"
	"slices"
	"testing"

	"campanile/alloc"
	"campanile/api"
	"campanile/version"
)

const (
	big   = 1<<63 - 1
	small = -1 << 63
)

type schedule = map[int][]api.Cell

func at(slot, channel, opts, peer int) api.Cell {
	return api.Cell{Slot: slot, Chan: channel, Opts: opts, Peer: peer}
}

func link(slot int) schedule {
	return schedule{0: {at(slot+1, 0, api.ORx, 1), at(slot, 0, api.OTx, 1)}, 1: {at(slot, 0, api.ORx, 0), at(slot+1, 0, api.OTx, 0)}}
}

func ends(t *testing.T, b *version.Book, v int, waits ...int) {
	t.Helper()
	if b.Version() != v || !slices.Equal(b.Waits(), waits) {
		t.Error(b.Version(), b.Waits())
	}
}

func errs(t *testing.T, got ...api.Errno) {
	t.Helper()
	for i := 0; i < len(got); i += 2 {
		if got[i] != got[i+1] {
			t.Errorf("%d: %d, not %d", i/2, got[i], got[i+1])
		}
	}
}

func begin(t *testing.T, b *version.Book, m schedule, want int, wantErr api.Errno) {
	t.Helper()
	if v, err := b.Begin(m); v != want || err != wantErr {
		t.Error(v, err)
	}
}

// P23.1: in two steps.
func TestBook(t *testing.T) {
	b := version.New(2)
	ends(t, b, 0)
	errs(t, b.Commit(), api.ErrState, b.Abort(), api.ErrState, b.Ready(0, 0), api.ErrState, b.Ready(9, 1), api.ErrState)
	m := link(3)
	begin(t, b, m, 1, api.OK)
	m[0][0].Slot = 9
	m[1] = nil
	ends(t, b, 0, 0, 1)
	begin(t, b, nil, 0, api.ErrState)
	begin(t, b, schedule{9: nil}, 0, api.ErrState)
	errs(t, b.Commit(), api.ErrState, b.Ready(0, 2), api.ErrState, b.Ready(0, 0), api.ErrState, b.Ready(7, 2), api.ErrState, b.Ready(2, 1), api.ErrArg, b.Ready(-1, 1), api.ErrArg, b.Ready(big, 1), api.ErrArg)
	errs(t, b.Ready(1, 1), api.OK, b.Ready(1, 1), api.ErrOld, b.Commit(), api.ErrState)
	ends(t, b, 0, 0)
	if len(b.Cells(0))+len(b.Cells(1)) != 0 {
		t.Error("counts too soon")
	}
	errs(t, b.Ready(0, 1), api.OK, b.Commit(), api.OK, b.Commit(), api.ErrState, b.Abort(), api.ErrState, b.Ready(0, 1), api.ErrState)
	ends(t, b, 1)
	want := []api.Cell{at(3, 0, api.OTx, 1), at(4, 0, api.ORx, 1)}
	got := b.Cells(0)
	if !slices.Equal(got, want) || len(b.Cells(1)) != 2 || len(b.Cells(2))+len(b.Cells(-1))+len(b.Cells(big)) != 0 {
		t.Error(got)
	}
	got[0].Slot = 77
	if !slices.Equal(b.Cells(0), want) {
		t.Error("one memory")
	}
	begin(t, b, nil, 2, api.OK)
	errs(t, b.Ready(0, 2), api.OK, b.Abort(), api.OK, b.Abort(), api.ErrState)
	ends(t, b, 1)
	begin(t, b, schedule{}, 3, api.OK)
	ends(t, b, 1, 0, 1)
	errs(t, b.Ready(0, 2), api.ErrState, b.Ready(0, 3), api.OK, b.Ready(1, 3), api.OK)
	if !slices.Equal(b.Cells(0), want) {
		t.Error(b.Cells(0))
	}
	errs(t, b.Commit(), api.OK)
	ends(t, b, 3)
	if len(b.Cells(0))+len(b.Cells(1)) != 0 {
		t.Error("still counts")
	}
}

// P23.1: what is not begun.
func TestBeginErrors(t *testing.T) {
	b := version.New(3)
	many, clash := make([]api.Cell, 65), []api.Cell{at(1, 1, api.OTx, 2), at(1, 2, api.OTx, 2)}
	for i := range many {
		many[i] = at(i, 0, api.OTx, 2)
	}
	for i, x := range []struct {
		m    schedule
		want api.Errno
	}{
		{schedule{3: many[:1]}, api.ErrArg}, {schedule{-1: many[:1]}, api.ErrArg}, {schedule{16: many[:1]}, api.ErrArg}, {schedule{0: many}, api.ErrArg}, {schedule{0: clash, 3: many[:1]}, api.ErrArg}, {schedule{0: clash, 1: many}, api.ErrArg},
		{schedule{0: clash}, api.ErrClash}, {schedule{0: {at(1, 1, 0, 2)}}, api.ErrClash}, {schedule{0: {at(1, 1, api.OTx|api.OShared, 2)}}, api.ErrClash}, {schedule{0: {at(200, 1, api.OTx, 2)}}, api.ErrClash},
	} {
		if v, err := b.Begin(x.m); v != 0 || err != x.want {
			t.Error(i, v, err)
		}
		ends(t, b, 0)
	}
	begin(t, b, schedule{0: many[:64]}, 1, api.OK)
	for nodes, top := range map[int]int{0: 1, -1: 1, small: 1, 16: 16, 17: 16, big: 16} {
		b := version.New(nodes)
		begin(t, b, nil, 1, api.OK)
		errs(t, b.Ready(top, 1), api.ErrArg, b.Ready(top-1, 1), api.OK)
		if len(b.Waits()) != top-1 {
			t.Error(nodes, b.Waits())
		}
	}
}

// P23.1: the last number.
func TestLastNumber(t *testing.T) {
	b := version.New(1)
	for i := range 1000000 {
		if v, err := b.Begin(nil); v != i+1 || err != api.OK || b.Abort() != api.OK {
			t.Fatal(v, err)
		}
	}
	begin(t, b, nil, 0, api.ErrFull)
	begin(t, b, schedule{0: {at(1, 1, 0, 2)}}, 0, api.ErrClash)
	errs(t, b.Abort(), api.ErrState)
	ends(t, b, 0)
}

// P23.2: a node's own.
func TestPlan(t *testing.T) {
	p := version.NewPlan()
	has := func(v int, want ...api.Cell) {
		t.Helper()
		if p.Version() != v || !slices.Equal(p.Cells(), want) {
			t.Error(p.Version(), p.Cells())
		}
	}
	has(0)
	errs(t, p.Commit(0), api.ErrState, p.Commit(1), api.ErrState)
	a, c := at(1, 1, api.OTx, 2), at(2, 1, api.OTx|api.OShared, api.All)
	many := make([]api.Cell, 65)
	for i := range many {
		many[i] = at(i, 0, api.OTx, 2)
	}
	moved := a
	moved.Opts, moved.Peer = api.ORx, 5
	far := a
	far.Frame = 1
	for i, x := range []struct {
		v int
		l []api.Cell
	}{{0, nil}, {-1, nil}, {small, nil}, {5, many}, {5, []api.Cell{a, at(1, 16, api.OTx, 2)}}, {5, []api.Cell{a, c, a}}, {5, []api.Cell{a, moved}}, {0, []api.Cell{a}}} {
		if err := p.Prepare(x.v, x.l); err != api.ErrArg {
			t.Error(i, err)
		}
	}
	errs(t, p.Commit(5), api.ErrState, p.Commit(0), api.ErrState)
	l := []api.Cell{c, far, a}
	errs(t, p.Prepare(5, l), api.OK)
	l[0] = a
	has(0)
	errs(t, p.Commit(4), api.ErrState, p.Commit(6), api.ErrState, p.Commit(0), api.ErrState, p.Commit(5), api.OK)
	has(5, a, c, far)
	p.Cells()[0].Slot = 9
	has(5, a, c, far)
	errs(t, p.Commit(5), api.ErrState, p.Commit(0), api.ErrState, p.Commit(1), api.ErrState, p.Prepare(5, nil), api.ErrOld, p.Prepare(1, many), api.ErrArg, p.Prepare(1, nil), api.ErrOld)
	errs(t, p.Prepare(9, []api.Cell{a}), api.OK, p.Prepare(5, nil), api.ErrOld, p.Prepare(9, many), api.ErrArg, p.Prepare(7, []api.Cell{c}), api.OK, p.Commit(9), api.ErrState, p.Commit(7), api.OK)
	has(7, c)
	errs(t, p.Prepare(8, many[:64]), api.OK, p.Prepare(big, nil), api.OK, p.Commit(8), api.ErrState, p.Commit(big), api.OK)
	has(big)
}

// P23.1, P23.2: nil ones.
func TestNil(t *testing.T) {
	var b *version.Book
	begin(t, b, nil, 0, api.ErrArg)
	errs(t, b.Ready(0, 1), api.ErrArg, b.Commit(), api.ErrArg, b.Abort(), api.ErrArg)
	ends(t, b, 0)
	if len(b.Cells(0)) != 0 {
		t.Error("a nil book has something")
	}
	var p *version.Plan
	errs(t, p.Prepare(1, nil), api.ErrArg, p.Commit(1), api.ErrArg)
	if p.Version() != 0 || len(p.Cells()) != 0 {
		t.Error("a nil plan has something")
	}
}

// P23.3: what counts is clean; a node that does as it is told has what counted, or counts.
func TestFollow(t *testing.T) {
	rnd := rand.New(rand.NewSource(23))
	const nodes = 4
	b := version.New(nodes)
	plans := make([]*version.Plan, nodes)
	for i := range plans {
		plans[i] = version.NewPlan()
	}
	counted := map[int]schedule{0: {}}
	var next schedule
	v := 0
	for range 2000 {
		node := rnd.Intn(nodes)
		switch rnd.Intn(12) {
		case 0:
			m := schedule{}
			for n := range nodes {
				for range rnd.Intn(4) {
					m[n] = append(m[n], at(rnd.Intn(20), rnd.Intn(3), api.OTx, rnd.Intn(nodes)))
				}
			}
			if n, err := b.Begin(m); err == api.OK {
				if !alloc.Clean(m) {
					t.Fatal("not clean")
				}
				next, v = m, n
			}
		case 1:
			if rnd.Intn(4) == 0 {
				b.Abort()
			}
		case 2:
			if b.Commit() == api.OK {
				counted[v] = next
			}
		case 3, 4:
			plans[node].Commit(b.Version())
		default:
			if slices.Contains(b.Waits(), node) {
				l := next[node]
				if plans[node].Prepare(v, l) != api.OK || b.Ready(node, v) != api.OK {
					t.Fatal("not prepared")
				}
			}
		}
		now := schedule{}
		for n, p := range plans {
			now[n] = b.Cells(n)
			m, ok := counted[p.Version()]
			if !ok || len(m[n]) != len(p.Cells()) {
				t.Fatal(n, p.Version(), p.Cells())
			}
			for _, c := range p.Cells() {
				if !slices.Contains(m[n], c) {
					t.Fatal(n, p.Version(), c)
				}
			}
		}
		if !alloc.Clean(now) {
			t.Fatal("not clean")
		}
	}
	if b.Version() < 5 {
		t.Error("too little happened", b.Version())
	}
}
