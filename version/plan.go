package version

import (
	"slices"

	"campanile/api"
	"campanile/cell"
)

// Plan is a node's own schedules.
type Plan struct {
	version  int
	prepared int // 0: none
	now      []api.Cell
	next     []api.Cell
}

// NewPlan is a plan without cells.
func NewPlan() *Plan { return &Plan{} }

// Prepare lays the cells of version v ready.
func (p *Plan) Prepare(v int, l []api.Cell) api.Errno {
	if p == nil || v < 1 || !cellsMay(l) {
		return api.ErrArg
	}
	if v <= p.version {
		return api.ErrOld
	}
	p.prepared, p.next = v, inOrder(l)
	return api.OK
}

// Commit makes what was prepared count.
func (p *Plan) Commit(v int) api.Errno {
	if p == nil {
		return api.ErrArg
	}
	if p.prepared == 0 || v != p.prepared {
		return api.ErrState
	}
	p.version, p.now = v, p.next
	p.prepared, p.next = 0, nil
	return api.OK
}

// Cells is the cells that count.
func (p *Plan) Cells() []api.Cell {
	if p == nil {
		return nil
	}
	return slices.Clone(p.now)
}

// Version is the number of what counts.
func (p *Plan) Version() int {
	if p == nil {
		return 0
	}
	return p.version
}

// cellsMay tells whether a table could hold l.
func cellsMay(l []api.Cell) bool {
	if len(l) > api.MaxCells {
		return false
	}
	for i, c := range l {
		if !cell.May(c) || slices.ContainsFunc(l[:i], func(x api.Cell) bool { return samePlace(x, c) }) {
			return false
		}
	}
	return true
}

func samePlace(a, b api.Cell) bool {
	return a.Frame == b.Frame && a.Slot == b.Slot && a.Chan == b.Chan
}
