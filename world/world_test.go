package world_test

import (
	"bytes"
	"math/rand"
	"slices"
	"testing"

	"campanile/api"
	"campanile/frame"
	"campanile/world"
)

const (
	big   = 1<<63 - 1
	small = -1 << 63
)

// config: 0 and 1, 0 and 2, 1 and 2, 2 and 3 hear each other, on one channel; who listens for 6 slots may come in time.
func config() api.Config {
	return api.Config{Nodes: 4, Near: []uint64{6, 5, 11, 4}, Hops: []int{11}, Guard: 100, Error: 3, Keep: 9, Loss: 30, Queue: 4, Life: 9}
}

type rig struct {
	t *testing.T
	w *world.World
}

func newRig(t *testing.T, c api.Config) rig {
	t.Helper()
	w, err := world.New(c)
	if err != api.OK {
		t.Fatal(err)
	}
	return rig{t, w}
}

// inTime is a world in which all four are in time, at ASN 40: of ranks 0, 1, 1, 2.
func inTime(t *testing.T) rig {
	t.Helper()
	r := newRig(t, config())
	for range 40 {
		r.slot(api.Step{})
	}
	for i, rank := range []int{0, 1, 1, 2} {
		if r.w.Node(i).Rank() != rank || r.w.Node(i).Off() != 0 {
			t.Fatal(i, r.w.Node(i).Rank(), r.w.Node(i).Off())
		}
	}
	return r
}

func (r rig) do(s api.Step, want api.Errno) []api.Event {
	r.t.Helper()
	events, err := r.w.Do(s)
	if err != want || err != api.OK && len(events) > 0 {
		r.t.Error(events, err)
	}
	return events
}

func (r rig) slot(s api.Step) []api.Event {
	r.t.Helper()
	s.Kind = api.SSlot
	return r.do(s, api.OK)
}

func (r rig) has(events []api.Event, want ...api.Event) {
	r.t.Helper()
	if !world.Same(events, want) {
		r.t.Errorf("%+v, not %+v", events, want)
	}
}

func (r rig) bound(i int, want int64, known bool) {
	r.t.Helper()
	if n, ok := r.w.Bound(i); n != want || ok != known {
		r.t.Errorf("%d: %d %v, not %d %v", i, n, ok, want, known)
	}
}

func ev(kind, i, src int) api.Event { return api.Event{Kind: kind, I: i, Src: src} }

// beacon is one of src, of the slot that is next.
func (r rig) beacon(src, rank int) []byte {
	b, err := frame.Encode(api.Frame{Kind: api.FBeacon, Src: src, Dst: api.All, IEs: []api.IE{{Kind: api.ISync, ASN: r.w.ASN(), Rank: rank}}})
	if err != api.OK {
		r.t.Fatal(err)
	}
	return b
}

func (r rig) inject(i int, b []byte) {
	r.t.Helper()
	r.do(api.Step{Kind: api.SInject, I: i, Data: b}, api.OK)
}

// P25.1: a world at its beginning.
func TestNew(t *testing.T) {
	r := newRig(t, config())
	if r.w.ASN() != 0 || r.w.Node(0).Rank() != 0 || r.w.Node(3).Rank() != 255 || r.w.Node(1) != r.w.Node(1) {
		t.Error("not at its beginning")
	}
	for i := range 4 {
		r.bound(i, 0, i == 0)
	}
	for _, i := range []int{-1, 4, 16, big, small} {
		if r.w.Node(i) != nil {
			t.Error(i)
		}
		r.bound(i, 0, false)
	}
	bad := config()
	bad.Near[0] = 1
	if w, err := world.New(bad); w != nil || err != api.ErrArg {
		t.Error(err)
	}
	if w, err := world.New(api.Config{}); w != nil || err != api.ErrArg {
		t.Error(err)
	}
	c := config()
	r = newRig(t, c)
	c.Near[0], c.Near[1], c.Hops[0] = 0, 0, 12
	for range 40 {
		r.slot(api.Step{})
	}
	if r.w.Node(1).Rank() != 1 {
		t.Error("keeps what was handed in")
	}
}

// P25.2: who comes in time, when, and what is known of its clock then.
func TestBegin(t *testing.T) {
	r := newRig(t, config())
	for asn := range 32 {
		r.has(r.slot(api.Step{Drift: []int{100, 100, 100, 100}}))
		if r.w.ASN() != int64(asn+1) {
			t.Fatal(r.w.ASN())
		}
	}
	if r.w.Node(0).Off() != 0 || r.w.Node(1).Off() != 32 {
		t.Error(r.w.Node(1).Off())
	}
	events := r.slot(api.Step{Drift: []int{100, 100}, Err: []int{9, 2, -77, 5}})
	r.has(events, ev(api.EHeard, 1, 0), ev(api.EMoved, 1, 0), ev(api.ESynced, 1, 0), ev(api.EParent, 1, 0), ev(api.EHeard, 2, 0), ev(api.EMoved, 2, 0), ev(api.ESynced, 2, 0), ev(api.EParent, 2, 0))
	if a, b, c := r.w.Node(1).Off(), r.w.Node(2).Off(), r.w.Node(3).Off(); a != 2 || b != -3 || c != 32 {
		t.Error(a, b, c)
	}
	r.bound(1, 3, true)
	r.bound(2, 3, true)
	r.bound(3, 0, false)
	r.has(r.slot(api.Step{}), ev(api.EHeard, 0, 1), ev(api.EHeard, 2, 1))
	r.bound(1, 4, true)
	r.has(r.slot(api.Step{Err: []int{0, 0, 0, 3}}), ev(api.EHeard, 0, 2), ev(api.EHeard, 1, 2), ev(api.EHeard, 3, 2), ev(api.EMoved, 3, 2), ev(api.ESynced, 3, 2), ev(api.EParent, 3, 2))
	if r.w.Node(3).Off() != 0 {
		t.Error(r.w.Node(3).Off())
	}
	r.bound(0, 0, true)
	r.bound(2, 5, true)
	r.bound(3, 8, true)
}

// P25.2: who hears whom.
func TestHears(t *testing.T) {
	// node 0's turn: all that it may be lost to
	for lost, want := range map[uint64][]api.Event{
		0: {ev(api.EHeard, 1, 0), ev(api.EMoved, 1, 0)}, 1: nil, 2 | 4 | 8: {ev(api.EHeard, 1, 0), ev(api.EMoved, 1, 0)}, 1<<63 | 1: nil, 1 << 63: {ev(api.EHeard, 1, 0), ev(api.EMoved, 1, 0)},
	} {
		r := inTime(t)
		r.has(r.slot(api.Step{Lost: []uint64{0, lost, 1, 1, 99, 99}}), want...)
	}
	// clocks that are too far from each other
	for _, off := range []int64{100, -100, 101, -101} {
		r := inTime(t)
		r.do(api.Step{Kind: api.SReboot, I: 2}, api.OK)
		events := slices.DeleteFunc(r.move(1, off), func(e api.Event) bool { return e.I != 1 })
		if off == 100 || off == -100 {
			r.has(events, ev(api.EHeard, 1, 0), ev(api.EMoved, 1, 0))
		} else {
			r.has(events)
		}
	}
	// who is not in time hears however far off it is
	r := newRig(t, config())
	for range 32 {
		r.slot(api.Step{Drift: []int{0, 100}})
	}
	r.move(1, 5000)
	if r.w.Node(1).Off() != 0 || !r.w.Node(1).Synced() {
		t.Error(r.w.Node(1).Off(), r.w.Node(1).Synced())
	}
	// who does not hear as well as the other one: Near is each node's own
	c := config()
	c.Near = []uint64{6, 0, 1, 0}
	r = newRig(t, c)
	for range 40 {
		r.slot(api.Step{})
	}
	if r.w.Node(1).Synced() || !r.w.Node(2).Synced() || r.w.Node(3).Synced() {
		t.Error("hears who is not near")
	}
}

// move puts node i's clock off by off, within the slot that comes, which is node 0's.
func (r rig) move(i int, off int64) []api.Event {
	n := r.w.Node(i)
	for n.Off() < off {
		n.Slot(0, 100)
	}
	for n.Off() > off {
		n.Slot(0, -100)
	}
	if r.w.ASN()%4 != 0 {
		r.t.Fatal("not node 0's slot")
	}
	return r.slot(api.Step{})
}

// P25.2: channels are what Plan tells.
func TestChannels(t *testing.T) {
	c := config()
	c.Hops = []int{11, 12, 13}
	r := newRig(t, c)
	for asn := range 100 {
		events := r.slot(api.Step{})
		// node 0 is on channel asn mod 3, who listens stays twelve slots on each
		want := asn >= 30 && asn%4 == 0 && asn%3 == (asn+1)/12%3
		if (len(events) > 0) != want {
			t.Fatal(asn, events)
		}
		if want {
			return
		}
	}
	t.Error("nobody comes in time")
}

// P25.2: what is sent, and what comes back.
func TestAcks(t *testing.T) {
	r := inTime(t) // ASN 40
	r.do(api.Step{Kind: api.SSend, I: 1, To: 0, Data: []byte("hi")}, api.OK)
	p := api.Packet{From: 1, To: 0, N: 40 * 64, Life: 9, Path: []int{1}, Data: []byte("hi")}
	r.slot(api.Step{})
	r.has(r.slot(api.Step{Lost: []uint64{2, 0, 2}}))
	if r.w.Node(1).Waiting() != 1 {
		t.Error(r.w.Node(1).Waiting())
	}
	r.slot(api.Step{})
	r.slot(api.Step{})
	r.slot(api.Step{})
	got := api.Event{Kind: api.EGot, I: 0, Packet: p}
	again := api.Event{Kind: api.EDropped, I: 0, Code: 5, Packet: p}
	r.has(r.slot(api.Step{Acks: []uint64{0, 1}}), ev(api.EHeard, 0, 1), got, ev(api.EHeard, 2, 1))
	r.slot(api.Step{})
	r.slot(api.Step{})
	r.slot(api.Step{Lost: []uint64{0, 1, 1}})
	// the slot that node 0 measures in, with an error of 2: node 1 is 4 off
	for range 4 {
		r.w.Node(1).Slot(0, 100)
	}
	r.bound(1, 7, true)
	r.has(r.slot(api.Step{Acks: []uint64{1, 0xfffe, 2}, Err: []int{2, 0, 1}}), ev(api.EHeard, 0, 1), again, ev(api.EHeard, 2, 1), ev(api.EMoved, 1, 0))
	if r.w.Node(1).Waiting() != 0 || r.w.Node(1).Off() != -2 {
		t.Error(r.w.Node(1).Waiting(), r.w.Node(1).Off())
	}
	r.bound(1, 3, true)
	// Near is of who sent: what it does not hear of does not come back
	c := config()
	c.Near = []uint64{2, 1, 1, 0}
	r = newRig(t, c)
	for range 40 {
		r.slot(api.Step{})
	}
	r.do(api.Step{Kind: api.SSend, I: 2, To: 0, Data: []byte("hi")}, api.OK)
	for range 40 {
		for _, e := range r.slot(api.Step{}) {
			if e.Kind == api.EDropped && (e.I != 2 || e.Code != 4) || e.Kind == api.EGot {
				t.Error(e)
			}
		}
	}
	if r.w.Node(2).Waiting() != 0 {
		t.Error(r.w.Node(2).Waiting())
	}
}

// P25.2: sending, what is refused.
func TestSend(t *testing.T) {
	r := inTime(t)
	for _, x := range []struct {
		i, to int
		data  string
		want  api.Errno
	}{{-1, 0, "x", api.ErrNone}, {4, 0, "x", api.ErrNone}, {big, 0, "", api.ErrNone}, {1, 1, "x", api.ErrArg}, {1, 4, "x", api.ErrArg}, {1, 0, "", api.ErrArg}, {1, 0, "1234567890123456789012345", api.ErrArg}, {0, 3, "x", api.ErrNone}, {1, 3, "x", api.OK}} {
		r.do(api.Step{Kind: api.SSend, I: x.i, To: x.to, Data: []byte(x.data)}, x.want)
	}
	if r.w.ASN() != 40 || r.w.Node(1).Waiting() != 1 {
		t.Error(r.w.ASN(), r.w.Node(1).Waiting())
	}
	for _, kind := range []int{0, 5, -1, big, small} {
		r.do(api.Step{Kind: kind}, api.ErrArg)
		r.do(api.Step{Kind: kind, I: -1}, api.ErrArg)
	}
	if r.w.ASN() != 40 {
		t.Error(r.w.ASN())
	}
	r = newRig(t, config())
	r.do(api.Step{Kind: api.SSend, I: 1, To: 0, Data: []byte("x")}, api.ErrState)
}

// P25.2: beginning anew.
func TestReboot(t *testing.T) {
	r := inTime(t)
	for i, want := range map[int]api.Errno{0: api.ErrArg, -1: api.ErrNone, 4: api.ErrNone, big: api.ErrNone} {
		r.do(api.Step{Kind: api.SReboot, I: i}, want)
	}
	if _, ok := r.w.Bound(2); !ok {
		t.Error("not known")
	}
	r.has(r.do(api.Step{Kind: api.SReboot, I: 2}, api.OK), ev(api.ELost, 2, 0))
	r.bound(2, 0, false)
	r.has(r.do(api.Step{Kind: api.SReboot, I: 2}, api.OK))
	if r.w.Node(2).Synced() || !r.w.Node(3).Synced() || r.w.ASN() != 40 {
		t.Error("rebooted")
	}
	// whom nobody hears any more is lost, too
	lost := 0
	for range 40 {
		for _, e := range r.slot(api.Step{}) {
			if e.Kind == api.ELost {
				lost++
				r.bound(3, 0, false)
				if e.I != 3 {
					t.Error(e)
				}
			}
		}
	}
	if lost != 1 {
		t.Error(lost)
	}
}

// P25.2: what is injected.
func TestInject(t *testing.T) {
	r := inTime(t)
	for i, want := range map[int]api.Errno{-1: api.ErrNone, 4: api.ErrNone, small: api.ErrNone} {
		r.do(api.Step{Kind: api.SInject, I: i, Data: make([]byte, 201)}, want)
	}
	r.do(api.Step{Kind: api.SInject, I: 1, Data: make([]byte, 201)}, api.ErrArg)
	r.inject(1, make([]byte, 200))
	// who hears another one does not hear it; behind the slot it is gone
	r.inject(3, r.beacon(1, 1))
	r.inject(1, r.beacon(3, 1))
	r.has(r.slot(api.Step{}), ev(api.EHeard, 1, 0), ev(api.EMoved, 1, 0), ev(api.EHeard, 2, 0), ev(api.EMoved, 2, 0), ev(api.EHeard, 3, 1), ev(api.EMoved, 3, 1), ev(api.EParent, 3, 1))
	r.slot(api.Step{})
	r.slot(api.Step{})
	// its own turn: it hears nothing
	r.inject(3, r.beacon(1, 0))
	r.has(r.slot(api.Step{}), ev(api.EHeard, 2, 3))
	// the last one counts; rubbish does no harm; the error is its own
	r.slot(api.Step{})
	b := r.beacon(1, 1)
	r.inject(3, b)
	r.inject(3, []byte("rubbish"))
	b[0]++
	r.has(r.slot(api.Step{}), ev(api.EHeard, 0, 1), ev(api.EHeard, 2, 1))
	r.slot(api.Step{Lost: []uint64{0, 0, 0, 4}})
	r.slot(api.Step{})
	r.inject(3, r.beacon(1, 1))
	r.has(r.slot(api.Step{Lost: []uint64{0, 1, 1}, Err: []int{0, 0, 0, -9}}), ev(api.EHeard, 3, 1), ev(api.EMoved, 3, 1))
	if r.w.Node(3).Off() != -3 {
		t.Error(r.w.Node(3).Off())
	}
	// a beacon of the slot behind comes too soon, and is gone then
	r = inTime(t)
	late, _ := frame.Encode(api.Frame{Kind: api.FBeacon, Src: 2, Dst: api.All, IEs: []api.IE{{Kind: api.ISync, ASN: 41, Rank: 1}}})
	r.inject(3, late)
	r.has(r.slot(api.Step{}), ev(api.EHeard, 1, 0), ev(api.EMoved, 1, 0), ev(api.EHeard, 2, 0), ev(api.EMoved, 2, 0))
	r.has(r.slot(api.Step{}), ev(api.EHeard, 0, 1), ev(api.EHeard, 2, 1))
	// what was injected gets nothing back, and is nobody's answer
	for lost, waits := range map[uint64]int{0: 0, 2: 1} {
		r = newRig(t, config())
		for range 33 {
			r.slot(api.Step{})
		}
		r.do(api.Step{Kind: api.SSend, I: 1, To: 0, Data: []byte("x")}, api.OK)
		keep, _ := frame.Encode(api.Frame{Kind: api.FKeep, Src: 1, Dst: 0, IEs: []api.IE{{Kind: api.ISync, ASN: r.w.ASN(), Rank: 1}}})
		r.inject(0, keep)
		if events := r.slot(api.Step{Lost: []uint64{lost, 0, 2}}); len(events) == 0 || events[0].Kind != api.EHeard || r.w.Node(1).Waiting() != waits {
			t.Error(lost, events, r.w.Node(1).Waiting())
		}
	}
}

// P25.2: what is known of a clock is known by what was known of the other one when the slot began.
func TestProof(t *testing.T) {
	r := inTime(t)
	r.slot(api.Step{Lost: []uint64{0, 1}})
	r.slot(api.Step{})
	r.slot(api.Step{})
	r.slot(api.Step{})
	one, _ := r.w.Bound(1)
	// node 1 hears node 0, node 3 hears in the same slot that node 1 is there
	r.inject(3, r.beacon(1, 1))
	r.slot(api.Step{})
	r.bound(1, 3, true)
	r.bound(3, one+1+3, true)
	// two that follow each other, by what each was told of the other one
	deaf := api.Step{Lost: []uint64{0, 15, 0, 15}}
	r.slot(deaf)
	r.inject(1, r.beacon(3, 0))
	r.slot(deaf)
	r.slot(deaf)
	r.inject(1, r.beacon(0, 9))
	r.slot(deaf)
	r.slot(deaf)
	for range 2 {
		r.inject(1, r.beacon(3, 0))
		r.inject(3, r.beacon(1, 0))
		one, _ = r.w.Bound(1)
		three, _ := r.w.Bound(3)
		moved := slices.DeleteFunc(r.slot(deaf), func(e api.Event) bool { return e.Kind != api.EMoved || e.I == 2 })
		r.has(moved, ev(api.EMoved, 1, 3), ev(api.EMoved, 3, 1))
		r.bound(1, three+1+3, true)
		r.bound(3, one+1+3, true)
		r.slot(deaf)
	}
}

// P25.3: alike in all.
func TestSame(t *testing.T) {
	plain := func() []api.Event {
		return []api.Event{{Kind: 1, I: 2, Src: 3, Code: 4, Packet: api.Packet{From: 1, Path: []int{1}, Data: []byte{2}}}, {Kind: 2}}
	}
	if !world.Same(plain(), plain()) || !world.Same(nil, []api.Event{}) || world.Same(plain(), nil) || world.Same(plain(), plain()[:1]) {
		t.Error("same")
	}
	for i, f := range []func(*api.Event){
		func(e *api.Event) { e.Kind = 9 }, func(e *api.Event) { e.I = 9 }, func(e *api.Event) { e.Src = 9 }, func(e *api.Event) { e.Code = 9 }, func(e *api.Event) { e.Packet.From = 9 }, func(e *api.Event) { e.Packet.To = 9 },
		func(e *api.Event) { e.Packet.N = 9 }, func(e *api.Event) { e.Packet.Life = 9 }, func(e *api.Event) { e.Packet.Path = nil }, func(e *api.Event) { e.Packet.Data = []byte{9} },
	} {
		b := plain()
		if f(&b[0]); world.Same(plain(), b) || world.Same(b, plain()) {
			t.Error(i)
		}
	}
	empty := plain()
	empty[1].Packet.Path, empty[1].Packet.Data = []int{}, []byte{}
	if !world.Same(plain(), empty) {
		t.Error("nil and empty are one")
	}
}

// P25.1, P25.2: nil.
func TestNil(t *testing.T) {
	var w *world.World
	for kind := range 6 {
		if events, err := w.Do(api.Step{Kind: kind}); len(events) > 0 || err != api.ErrArg {
			t.Error(kind, events, err)
		}
	}
	if n, ok := w.Bound(0); w.ASN() != 0 || w.Node(0) != nil || n != 0 || ok {
		t.Error("a nil world has something")
	}
}

// some is a step of a script without injected frames.
func some(rnd *rand.Rand, nodes int) api.Step {
	s := api.Step{Kind: api.SSlot, I: rnd.Intn(nodes), To: rnd.Intn(nodes), Data: []byte{byte(rnd.Intn(256))}}
	switch rnd.Intn(60) {
	case 0, 1, 2, 3:
		s.Kind = api.SSend
	case 4:
		if rnd.Intn(8) == 0 {
			s.Kind = api.SReboot
		}
	}
	for range nodes {
		s.Drift = append(s.Drift, rnd.Intn(201)-100)
		s.Err = append(s.Err, rnd.Intn(40)-20)
		s.Lost = append(s.Lost, rnd.Uint64()&rnd.Uint64()&rnd.Uint64())
		s.Acks = append(s.Acks, rnd.Uint64()&rnd.Uint64()&rnd.Uint64())
	}
	return s
}

// P25.4, P25.5, T1, T3, T4: in time, without circles, told once.
func TestWorld(t *testing.T) {
	rnd := rand.New(rand.NewSource(25))
	for range 12 {
		c := api.Config{Nodes: 3 + rnd.Intn(6), Hops: []int{11, 15, 20}[:1+rnd.Intn(3)], Guard: 400, Error: 5, Keep: 20, Loss: 50, Queue: 4, Life: 12}
		c.Near = make([]uint64, c.Nodes)
		for a := range c.Nodes {
			for b := range a {
				if b == a-1 || rnd.Intn(3) == 0 {
					c.Near[a] |= 1 << b
					c.Near[b] |= 1 << a
				}
			}
		}
		r := newRig(t, c)
		again := newRig(t, c)
		type told struct{ from, n int }
		type what struct {
			to   int
			data byte
		}
		sent, got := map[told]what{}, map[told]bool{}
		last := slices.Repeat([]int{-1}, c.Nodes)
		rebooted := false
		inTime := 0
		for range 4000 {
			s := some(rnd, c.Nodes)
			asn := r.w.ASN()
			events, err := r.w.Do(s)
			twin, err2 := again.w.Do(s)
			if !world.Same(events, twin) || err != err2 {
				t.Fatal("an answer hangs on something else")
			}
			if s.Kind == api.SReboot && err == api.OK {
				rebooted, last[s.I] = true, -1
			}
			if s.Kind == api.SSend && err == api.OK {
				last[s.I] = max(last[s.I]+1, int(asn)*64)
				sent[told{s.I, last[s.I]}] = what{s.To, s.Data[0]}
			}
			for _, e := range events {
				if e.Kind != api.EGot {
					continue
				}
				k := told{e.Packet.From, e.Packet.N}
				if w, ok := sent[k]; !ok || w != (what{e.I, e.Packet.Data[0]}) || e.I != e.Packet.To || got[k] && !rebooted {
					t.Fatal("told twice, or never sent", e)
				}
				got[k] = true
			}
			for i := range c.Nodes {
				n := r.w.Node(i)
				if !n.Synced() {
					continue
				}
				inTime++
				if b, ok := r.w.Bound(i); !ok || n.Off() > b || n.Off() < -b {
					t.Fatal(r.w.ASN(), i, n.Off(), b, ok)
				}
				for _, p := range n.Parents() {
					if r.w.Node(p).Synced() && r.w.Node(p).Rank() >= n.Rank() {
						t.Fatal(r.w.ASN(), i, n.Rank(), p, r.w.Node(p).Rank())
					}
				}
			}
		}
		if inTime < 6000 || len(got) < 10 {
			t.Error("too little happened", inTime, len(got))
		}
	}
}

// T5: whatever is injected.
func TestRubbish(t *testing.T) {
	rnd := rand.New(rand.NewSource(26))
	r := newRig(t, config())
	for range 6000 {
		s := some(rnd, 4)
		if rnd.Intn(2) == 0 {
			s.Kind = api.SInject
			s.Data = make([]byte, rnd.Intn(60))
			rnd.Read(s.Data)
			if rnd.Intn(2) == 0 {
				s.Data = r.beacon(rnd.Intn(6), rnd.Intn(256))
			}
		}
		was := bytes.Clone(s.Data)
		r.w.Do(s)
		if !bytes.Equal(was, s.Data) {
			t.Fatal("changed")
		}
		for i := range 4 {
			if n := r.w.Node(i); n.Waiting() > 4 || len(n.Parents()) > 3 {
				t.Fatal(n.Waiting(), n.Parents())
			}
		}
	}
}
