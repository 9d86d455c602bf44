package world

import (
	"slices"

	"campanile/api"
	"campanile/frame"
	"campanile/offset"
)

// air is a slot that goes by: of each node its clock, where it is, what it sends, and what it answered.
type air struct {
	step     api.Step
	offs     [api.MaxNodes]int64
	channels [api.MaxNodes]int
	sent     [api.MaxNodes][]byte
	answers  [api.MaxNodes][]byte
}

// slot lets a slot go by.
func (w *World) slot(s api.Step) ([]api.Event, api.Errno) {
	if w.asn >= api.MaxASN-1 {
		return nil, api.ErrState
	}
	a := w.begin(s)
	var events []api.Event
	for i := range w.nodes {
		if len(a.sent[i]) == 0 {
			events = append(events, w.hear(a, i)...)
		}
	}
	for i, n := range w.nodes {
		if len(a.sent[i]) > 0 {
			events = append(events, n.Ack(w.asn, w.answer(a, i), 0)...)
		}
	}
	for _, n := range w.nodes {
		events = append(events, n.End(w.asn)...)
	}
	w.prove(events)
	clear(w.injected)
	w.asn++
	return events, api.OK
}

// begin moves all clocks, and asks each node what it does.
func (w *World) begin(s api.Step) *air {
	for i, n := range w.nodes {
		n.Slot(w.asn, at(s.Drift, i))
		w.proofs[i].Slot()
	}
	a := &air{step: s}
	for i, n := range w.nodes {
		a.offs[i] = n.Off()
		a.channels[i], a.sent[i] = n.Plan(w.asn)
	}
	return a
}

// hear is what node i hears: one alone, or what was injected where there is none.
func (w *World) hear(a *air, i int) []api.Event {
	var heard []int
	for j := range w.nodes {
		if len(a.sent[j]) > 0 && w.reaches(a, i, j) {
			heard = append(heard, j)
		}
	}
	var events []api.Event
	switch len(heard) {
	case 0:
		if b := w.injected[i]; len(b) > 0 {
			_, events = w.nodes[i].Hear(w.asn, b, w.measure(a, i, i))
		}
	case 1:
		j := heard[0]
		a.answers[i], events = w.nodes[i].Hear(w.asn, a.sent[j], w.measure(a, i, j))
	}
	return events
}

// reaches tells whether what j sends comes to i.
func (w *World) reaches(a *air, i, j int) bool {
	if a.channels[i] != a.channels[j] || !isBit(w.near[i], j) || isBit(at(a.step.Lost, i), j) {
		return false
	}
	return !w.nodes[i].Synced() || offset.Within(a.offs[i], a.offs[j], w.guard)
}

// measure is how far i finds its clock to be from that of j.
func (w *World) measure(a *air, i, j int) int {
	return offset.Measure(a.offs[i], a.offs[j], at(a.step.Err, i), w.err)
}

// answer is what comes back to i.
func (w *World) answer(a *air, i int) []byte {
	f, err := frame.Decode(a.sent[i])
	if err != api.OK || !w.has(f.Dst) || !isBit(w.near[i], f.Dst) || isBit(at(a.step.Acks, i), f.Dst) {
		return nil
	}
	return a.answers[f.Dst]
}

// prove keeps what is known of how far off each node is: by what was known when the slot began, as it still is here.
func (w *World) prove(events []api.Event) {
	before := slices.Clone(w.proofs)
	for _, e := range events {
		switch e.Kind {
		case api.EMoved:
			w.proofs[e.I] = before[e.Src]
			w.proofs[e.I].Heard(e.I, e.Src, w.err)
		case api.ELost:
			w.proofs[e.I].Lose(e.I)
		}
	}
}

// at is l[i]; 0, if l is too short.
func at[T any](l []T, i int) T {
	if i < len(l) {
		return l[i]
	}
	var none T
	return none
}

func isBit(x uint64, i int) bool { return x>>i&1 == 1 }
