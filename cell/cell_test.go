package cell_test

import (
	"math/rand"
	"slices"
	"testing"

	"campanile/api"
	"campanile/cell"
)

func at(frame, slot, channel int) api.Cell {
	return api.Cell{Frame: frame, Slot: slot, Chan: channel, Opts: api.OTx, Peer: 1}
}

// P8.1: what may be.
func TestMay(t *testing.T) {
	base := at(1, 2, 3)
	for i, x := range []struct {
		change func(*api.Cell, int)
		good   []int
		bad    []int
	}{
		{func(c *api.Cell, n int) { c.Frame = n }, []int{0, 3}, []int{-1, 4, 1 << 62}},
		{func(c *api.Cell, n int) { c.Slot = n }, []int{0, 199}, []int{-1, 200, -1 << 63}},
		{func(c *api.Cell, n int) { c.Chan = n }, []int{0, 15}, []int{-1, 16}},
		{func(c *api.Cell, n int) { c.Peer = n }, []int{0, 15, api.All}, []int{-1, 16, 63, 65}},
		{func(c *api.Cell, n int) { c.Opts = n }, []int{1, 2, 3, 5, 7, 9, 10, 11, 13, 15}, []int{0, 4, 6, 8, 12, 14, 16, 17, -1}},
	} {
		for _, n := range x.good {
			c := base
			if x.change(&c, n); !cell.May(c) {
				t.Errorf("%d: %+v may be", i, c)
			}
		}
		for _, n := range x.bad {
			c := base
			if x.change(&c, n); cell.May(c) {
				t.Errorf("%d: %+v may not be", i, c)
			}
			table := cell.New()
			table.Frame(1, 200)
			if e := table.Add(c); e != api.ErrArg || len(table.All()) != 0 {
				t.Errorf("%d: %+v %d", i, c, e)
			}
		}
	}
}

// P8.1: by Frame, Slot, Chan, Opts, Peer.
func TestLess(t *testing.T) {
	rows := []api.Cell{{Frame: 0, Slot: 9, Chan: 9, Opts: 9, Peer: 9}, {Frame: 1, Slot: 0, Chan: 9, Opts: 9, Peer: 9}, {Frame: 1, Slot: 1, Chan: 0, Opts: 9, Peer: 9}, {Frame: 1, Slot: 1, Chan: 1, Opts: 1, Peer: 9}, {Frame: 1, Slot: 1, Chan: 1, Opts: 2, Peer: 0}, {Frame: 1, Slot: 1, Chan: 1, Opts: 2, Peer: 1}}
	for i, a := range rows {
		for j, b := range rows {
			if cell.Less(a, b) != (i < j) {
				t.Error(i, j)
			}
		}
	}
}

// P8.2: slotframes.
func TestFrame(t *testing.T) {
	table := cell.New()
	for _, x := range [][3]int{{-1, 5, 1}, {4, 5, 1}, {0, -1, 1}, {0, 201, 1}, {1 << 62, 5, 1}, {0, 1 << 62, 1}, {0, 200, 0}, {3, 1, 0}, {0, 7, 0}, {0, 0, 0}, {1, 0, 0}, {2, 5, 0}} {
		if e := table.Frame(x[0], x[1]); e != api.Errno(x[2]) {
			t.Error(x, e)
		}
	}
	for h, want := range map[int]int{-1: 0, 0: 0, 1: 0, 2: 5, 3: 1, 4: 0, -1 << 63: 0} {
		if got := table.Length(h); got != want {
			t.Error(h, got)
		}
	}
	if table.Add(at(2, 3, 0)) != api.OK {
		t.Fatal("not added")
	}
	for _, x := range [][3]int{{2, 3, 9}, {2, 0, 9}, {2, 4, 0}, {2, 201, 1}, {3, 0, 0}} {
		if e := table.Frame(x[0], x[1]); e != api.Errno(x[2]) {
			t.Error(x, e)
		}
	}
	if table.Length(2) != 4 || table.Length(3) != 0 {
		t.Error(table.Length(2), table.Length(3))
	}
}

// P8.2: adding and removing.
func TestAdd(t *testing.T) {
	table := cell.New()
	if e := table.Add(at(0, 0, 0)); e != api.ErrNone {
		t.Error(e)
	}
	table.Frame(0, 5)
	if e := table.Add(at(0, 5, 0)); e != api.ErrNone {
		t.Error(e)
	}
	first := at(0, 4, 2)
	if e := table.Add(first); e != api.OK {
		t.Error(e)
	}
	other := first
	other.Opts, other.Peer = api.ORx, 3
	if a, b := table.Add(first), table.Add(other); a != api.ErrClash || b != api.ErrClash {
		t.Error(a, b)
	}
	if e := table.Remove(other); e != api.ErrNone {
		t.Error(e)
	}
	for _, c := range []api.Cell{at(0, 4, 1), at(0, 0, 2)} {
		if e := table.Add(c); e != api.OK {
			t.Error(c, e)
		}
	}
	if got := table.All(); !slices.Equal(got, []api.Cell{at(0, 0, 2), at(0, 4, 1), first}) {
		t.Error(got)
	}
	table.All()[0].Slot = 3
	if a, b := table.Remove(at(0, 0, 2)), table.Remove(at(0, 0, 2)); a != api.OK || b != api.ErrNone {
		t.Error(a, b)
	}
	if got := table.All(); !slices.Equal(got, []api.Cell{at(0, 4, 1), first}) {
		t.Error(got)
	}
}

// P8.2: no more than MaxCells; a clash is told first.
func TestFull(t *testing.T) {
	table := cell.New()
	table.Frame(0, 200)
	for i := range api.MaxCells {
		if e := table.Add(at(0, i, 0)); e != api.OK {
			t.Fatal(i, e)
		}
	}
	if a, b, c := table.Add(at(0, 100, 0)), table.Add(at(0, 10, 0)), table.Add(at(1, 0, 0)); a != api.ErrFull || b != api.ErrClash || c != api.ErrNone || len(table.All()) != api.MaxCells {
		t.Error(a, b, c)
	}
	table.Remove(at(0, 7, 0))
	if e := table.Add(at(0, 100, 0)); e != api.OK {
		t.Error(e)
	}
}

// P8.2: what is active, by Frame, then Chan.
func TestActive(t *testing.T) {
	table := cell.New()
	table.Frame(0, 5)
	table.Frame(2, 3)
	for _, c := range []api.Cell{at(2, 1, 0), at(0, 2, 9), at(0, 2, 3), at(0, 1, 0), at(2, 2, 5)} {
		if e := table.Add(c); e != api.OK {
			t.Fatal(e)
		}
	}
	for _, x := range []struct {
		asn  int64
		want []api.Cell
	}{
		{7, []api.Cell{at(0, 2, 3), at(0, 2, 9), at(2, 1, 0)}},
		{2, []api.Cell{at(0, 2, 3), at(0, 2, 9), at(2, 2, 5)}},
		{1, []api.Cell{at(0, 1, 0), at(2, 1, 0)}},
		{api.MaxASN - 4, []api.Cell{at(0, 2, 3), at(0, 2, 9)}},
		{0, nil}, {-1, nil}, {-3, nil}, {-1 << 63, nil}, {api.MaxASN - 1, nil}, {api.MaxASN, nil}, {api.MaxASN + 1, nil}, {1<<63 - 1, nil},
	} {
		if got := table.Active(x.asn); !slices.Equal(got, x.want) {
			t.Error(x.asn, got)
		}
	}
}

// P8.2: nil.
func TestNil(t *testing.T) {
	var table *cell.Table
	if table.Frame(0, 5) != api.ErrArg || table.Add(at(0, 0, 0)) != api.ErrArg || table.Remove(at(0, 0, 0)) != api.ErrArg || len(table.All())+len(table.Active(0))+table.Length(0) != 0 {
		t.Error("a nil table has something")
	}
}

// P8.2, P8.3: as a plain list would have it; again when the slotframe has gone by.
func TestAgain(t *testing.T) {
	rnd := rand.New(rand.NewSource(8))
	table := cell.New()
	lengths := []int{7, 1, 12, 200}
	for h, n := range lengths {
		table.Frame(h, n)
	}
	var plain []api.Cell
	for range 300 {
		c := at(rnd.Intn(4), rnd.Intn(12), rnd.Intn(3))
		if i := slices.Index(plain, c); i >= 0 && rnd.Intn(2) == 0 {
			plain = slices.Delete(plain, i, i+1)
			if e := table.Remove(c); e != api.OK {
				t.Fatal(e)
			}
		} else if table.Add(c) == api.OK {
			plain = append(plain, c)
		}
		slices.SortFunc(plain, func(a, b api.Cell) int {
			if cell.Less(a, b) {
				return -1
			}
			return 1
		})
		if !slices.Equal(plain, table.All()) || len(plain) > api.MaxCells {
			t.Fatal(plain, table.All())
		}
	}
	for _, c := range plain {
		n := int64(lengths[c.Frame])
		first := int64(c.Slot)
		for asn := int64(0); asn < 3*n; asn++ {
			if slices.Contains(table.Active(asn), c) != (asn >= first && (asn-first)%n == 0) {
				t.Fatal(c, asn)
			}
		}
	}
}
