package slot_test

import (
	"slices"
	"testing"

	"campanile/api"
	"campanile/slot"
)

func with(opts, peer int) api.Cell {
	return api.Cell{Frame: 1, Slot: 2, Chan: opts, Opts: opts, Peer: peer}
}

// P9.1, P9.2: what is done, cell by cell.
func TestDecide(t *testing.T) {
	tx, rx, shared, both := with(api.OTx, 3), with(api.ORx, 3), with(api.OTx|api.OShared, 3), with(api.OTx|api.OShared|api.ORx, 4)
	all := with(api.OTx, api.All)
	other := with(api.OTx|api.OTime, 5)
	no := with(api.OTx, 3)
	no.Frame = 4
	noRx := with(api.ORx, 16)
	send := func(c api.Cell, at int) api.Action { return api.Action{Kind: api.ASend, Cell: c, At: at} }
	listen := func(c api.Cell) api.Action { return api.Action{Kind: api.AListen, Cell: c} }
	for i, x := range []struct {
		active []api.Cell
		waits  []int
		free   bool
		want   api.Action
	}{
		{nil, nil, true, api.Action{}}, {nil, []int{3}, true, api.Action{}},
		{[]api.Cell{rx, tx}, []int{5, 3}, true, send(tx, 1)}, {[]api.Cell{rx, tx}, []int{5, 3, 3}, false, send(tx, 1)},
		{[]api.Cell{rx, tx}, []int{5, api.All}, true, listen(rx)}, {[]api.Cell{tx}, []int{5}, true, api.Action{}}, {[]api.Cell{tx}, nil, true, api.Action{}},
		{[]api.Cell{tx, other}, []int{5, 3}, true, send(tx, 1)}, {[]api.Cell{other, tx}, []int{3, 5}, true, send(other, 1)}, {[]api.Cell{tx, other}, []int{5}, true, send(other, 0)},
		{[]api.Cell{all}, []int{7, 3}, true, send(all, 0)}, {[]api.Cell{all}, []int{api.All, 3}, true, send(all, 0)}, {[]api.Cell{all}, nil, true, api.Action{}}, {[]api.Cell{tx, all}, []int{api.All}, true, send(all, 0)},
		{[]api.Cell{shared}, []int{3}, true, send(shared, 0)}, {[]api.Cell{shared}, []int{3}, false, api.Action{}}, {[]api.Cell{shared, tx}, []int{3}, false, send(tx, 0)}, {[]api.Cell{shared, tx}, []int{3}, true, send(shared, 0)},
		{[]api.Cell{both, rx}, []int{4}, false, listen(both)}, {[]api.Cell{both, rx}, []int{4}, true, send(both, 0)}, {[]api.Cell{both}, nil, true, listen(both)},
		{[]api.Cell{rx, both}, nil, true, listen(rx)}, {[]api.Cell{tx, rx, both}, []int{9}, true, listen(rx)},
		{[]api.Cell{no}, []int{3}, true, api.Action{}}, {[]api.Cell{no, noRx, rx}, []int{3}, true, listen(rx)}, {[]api.Cell{noRx}, []int{3}, true, api.Action{}}, {[]api.Cell{no, tx}, []int{3}, true, send(tx, 0)},
		{[]api.Cell{with(api.OShared|api.ORx, 3), with(0, 3), with(16, 3)}, []int{3}, true, api.Action{}},
		{[]api.Cell{with(api.OTx, 0)}, []int{1, 0}, true, send(with(api.OTx, 0), 1)},
	} {
		active, waits := slices.Clone(x.active), slices.Clone(x.waits)
		if got := slot.Decide(x.active, x.waits, x.free); got != x.want {
			t.Errorf("%d: %+v, not %+v", i, got, x.want)
		}
		if !slices.Equal(active, x.active) || !slices.Equal(waits, x.waits) {
			t.Errorf("%d: changed", i)
		}
	}
}
