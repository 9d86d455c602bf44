package node_test

import (
	"bytes"
	"slices"
	"testing"

	"campanile/api"
	"campanile/frame"
	"campanile/node"
	"campanile/route"
)

const (
	big   = 1<<63 - 1
	small = -1 << 63
)

func config() api.Config {
	return api.Config{Nodes: 5, Near: []uint64{0x1e, 0x1d, 0x1b, 0x17, 0xf}, Hops: []int{11, 15, 20}, Guard: 300, Error: 3, Keep: 6, Loss: 10, Queue: 2, Life: 5}
}

// rig is a node, and the time it is in.
type rig struct {
	t   *testing.T
	n   *node.Node
	asn int64
}

func newRig(t *testing.T, id int) *rig {
	t.Helper()
	n := node.New(config(), id)
	if n == nil {
		t.Fatal("no node", id)
	}
	return &rig{t: t, n: n}
}

// synced is a node of id 3 that follows node 1, of rank 2, so that its own rank is 3; its clock was put right by nothing.
func synced(t *testing.T) *rig {
	t.Helper()
	r := newRig(t, 3)
	for range 11 {
		r.n.Slot(r.asn, 0)
		r.asn++
	}
	_, events := r.n.Hear(r.asn, r.beacon(1, 2), 0)
	r.has(events, ev(api.EHeard, 3, 1), ev(api.EMoved, 3, 1), ev(api.ESynced, 3, 1), ev(api.EParent, 3, 1))
	return r
}

func ev(kind, i, src int) api.Event { return api.Event{Kind: kind, I: i, Src: src} }

func gotten(i int, p api.Packet) api.Event { return api.Event{Kind: api.EGot, I: i, Packet: p} }

func dropped(i, code int, p api.Packet) api.Event {
	return api.Event{Kind: api.EDropped, I: i, Code: code, Packet: p}
}

func sameEvents(a, b []api.Event) bool {
	return slices.EqualFunc(a, b, func(x, y api.Event) bool {
		return x.Kind == y.Kind && x.I == y.I && x.Src == y.Src && x.Code == y.Code && route.Same(x.Packet, y.Packet)
	})
}

func (r *rig) has(events []api.Event, want ...api.Event) {
	r.t.Helper()
	if !sameEvents(events, want) {
		r.t.Errorf("%+v, not %+v", events, want)
	}
}

func (r *rig) encode(f api.Frame) []byte {
	r.t.Helper()
	b, err := frame.Encode(f)
	if err != api.OK {
		r.t.Fatalf("%+v %d", f, err)
	}
	return b
}

func (r *rig) packet(p api.Packet) []byte {
	r.t.Helper()
	b, err := route.Encode(p)
	if err != api.OK {
		r.t.Fatalf("%+v %d", p, err)
	}
	return b
}

func (r *rig) beat(rank int) api.IE { return api.IE{Kind: api.ISync, ASN: r.asn, Rank: rank} }

func (r *rig) beacon(src, rank int) []byte {
	r.t.Helper()
	return r.encode(api.Frame{Kind: api.FBeacon, Src: src, Dst: api.All, IEs: []api.IE{r.beat(rank)}})
}

func (r *rig) data(src, dst, rank, seq int, b []byte) []byte {
	r.t.Helper()
	return r.encode(api.Frame{Kind: api.FData, Src: src, Dst: dst, Seq: seq, IEs: []api.IE{r.beat(rank)}, Data: b})
}

func (r *rig) ack(src, dst, rank, seq int, more ...api.IE) []byte {
	r.t.Helper()
	return r.encode(api.Frame{Kind: api.FAck, Src: src, Dst: dst, Seq: seq, IEs: append([]api.IE{r.beat(rank)}, more...)})
}

// turn goes on to the next slot that is the node's own, and tells what it sends there.
func (r *rig) turn(id int) api.Frame {
	r.t.Helper()
	r.asn += 5 - (r.asn+5-int64(id))%5
	_, b := r.n.Plan(r.asn)
	f, err := frame.Decode(b)
	if err != api.OK {
		r.t.Fatal("sends nothing", r.asn, err)
	}
	return f
}

func (r *rig) sends(got, want api.Frame) {
	r.t.Helper()
	if !frame.Same(got, want) {
		r.t.Errorf("%+v, not %+v", got, want)
	}
}

func (r *rig) is(synced bool, rank int, off int64, waiting int, parents ...int) {
	r.t.Helper()
	n := r.n
	if n.Synced() != synced || n.Rank() != rank || n.Off() != off || n.Waiting() != waiting || !slices.Equal(n.Parents(), parents) {
		r.t.Errorf("%v %d %d %d %v, not %v %d %d %d %v", n.Synced(), n.Rank(), n.Off(), n.Waiting(), n.Parents(), synced, rank, off, waiting, parents)
	}
}

// P24.1: which meshes may be.
func TestMay(t *testing.T) {
	if !node.May(config()) {
		t.Fatal("may be")
	}
	type change func(*api.Config)
	for i, f := range []change{
		func(c *api.Config) { c.Nodes, c.Near = 2, []uint64{2, 1} }, func(c *api.Config) { c.Nodes, c.Near = 2, []uint64{0, 0} }, func(c *api.Config) { c.Nodes, c.Near = 16, make([]uint64, 16); c.Near[0] = 0xfffe; c.Near[15] = 0x7fff },
		func(c *api.Config) { c.Hops = []int{31} }, func(c *api.Config) { c.Guard = 1 }, func(c *api.Config) { c.Guard = 4000 }, func(c *api.Config) { c.Error = 0 }, func(c *api.Config) { c.Error = 1000 }, func(c *api.Config) { c.Keep = 1 }, func(c *api.Config) { c.Keep = 10000 },
		func(c *api.Config) { c.Loss = 1 }, func(c *api.Config) { c.Loss = 10000 }, func(c *api.Config) { c.Queue = 1 }, func(c *api.Config) { c.Queue = 32 }, func(c *api.Config) { c.Life = 1 }, func(c *api.Config) { c.Life = 15 }, func(c *api.Config) { c.Near[0] = 0 },
	} {
		c := config()
		if f(&c); !node.May(c) || node.New(c, 0) == nil {
			t.Errorf("%d: %+v may be", i, c)
		}
	}
	for i, f := range []change{
		func(c *api.Config) { c.Nodes, c.Near = 1, []uint64{0} }, func(c *api.Config) { c.Nodes, c.Near = 0, nil }, func(c *api.Config) { c.Nodes, c.Near = 17, make([]uint64, 17) }, func(c *api.Config) { c.Nodes = -1 }, func(c *api.Config) { c.Nodes = 4 }, func(c *api.Config) { c.Nodes = 6 }, func(c *api.Config) { c.Nodes = big },
		func(c *api.Config) { c.Near[0] = 1 }, func(c *api.Config) { c.Near[3] = 8 }, func(c *api.Config) { c.Near[2] |= 1 << 5 }, func(c *api.Config) { c.Near[4] = 1 << 63 }, func(c *api.Config) { c.Near = nil }, func(c *api.Config) { c.Hops = nil }, func(c *api.Config) { c.Hops = []int{32} }, func(c *api.Config) { c.Hops = []int{1, 1} },
		func(c *api.Config) { c.Guard = 0 }, func(c *api.Config) { c.Guard = 4001 }, func(c *api.Config) { c.Error = -1 }, func(c *api.Config) { c.Error = 1001 }, func(c *api.Config) { c.Keep = 0 }, func(c *api.Config) { c.Keep = 10001 }, func(c *api.Config) { c.Loss = 0 }, func(c *api.Config) { c.Loss = 10001 },
		func(c *api.Config) { c.Queue = 0 }, func(c *api.Config) { c.Queue = 33 }, func(c *api.Config) { c.Life = 0 }, func(c *api.Config) { c.Life = 16 }, func(c *api.Config) { c.Life = small },
	} {
		c := config()
		if f(&c); node.May(c) || node.New(c, 0) != nil {
			t.Errorf("%d: %+v may not be", i, c)
		}
	}
	for _, id := range []int{-1, 5, 16, api.All, big, small} {
		if node.New(config(), id) != nil {
			t.Error(id)
		}
	}
}

// 'What it has', P24.7: as New made it.
func TestNew(t *testing.T) {
	newRig(t, 0).is(true, 0, 0, 0)
	newRig(t, 4).is(false, 255, 0, 0)
	c := config()
	n := node.New(c, 0)
	c.Hops[0], c.Near[0] = 29, 1
	if channel, _ := n.Plan(0); channel != 11 {
		t.Error("keeps what was handed in")
	}
}

// P24.2: a clock that drifts, but for node 0's.
func TestSlot(t *testing.T) {
	r := newRig(t, 1)
	for _, asn := range []int64{-1, api.MaxASN, big, small} {
		r.n.Slot(asn, 100)
	}
	r.is(false, 255, 0, 0)
	for range 10 {
		r.n.Slot(0, 100)
	}
	r.is(false, 255, 10, 0)
	r.n.Slot(api.MaxASN-1, -100)
	r.is(false, 255, 9, 0)
	r = newRig(t, 0)
	for i := range 1000 {
		r.n.Slot(0, 100-i%2)
	}
	r.is(true, 0, 0, 0)
}

// P24.2: where it listens, in time or not.
func TestPlanChannel(t *testing.T) {
	r := newRig(t, 1)
	for i := range 200 {
		want := []int{11, 15, 20}[i/15%3]
		if channel, b := r.n.Plan(int64(i % 7)); channel != want || len(b) != 0 {
			t.Fatal(i, channel, b)
		}
		r.n.Slot(0, 0)
	}
	for _, asn := range []int64{-1, api.MaxASN, big, small} {
		for _, id := range []int{0, 1} {
			if channel, b := newRig(t, id).n.Plan(asn); channel != -1 || len(b) != 0 {
				t.Error(asn, channel)
			}
		}
	}
	r = newRig(t, 0)
	for asn := int64(0); asn < 40; asn++ {
		if channel, b := r.n.Plan(asn); channel != []int{11, 15, 20}[asn%3] || (len(b) > 0) != (asn%5 == 0) {
			t.Error(asn, channel, b)
		}
	}
	r = synced(t)
	for asn := int64(20); asn < 60; asn++ {
		if channel, b := r.n.Plan(asn); channel != []int{11, 15, 20}[asn%3] || (len(b) > 0) != (asn%5 == 3) {
			t.Error(asn, channel, b)
		}
	}
}

// P24.2: no channel is black.
func TestPlanOpen(t *testing.T) {
	c := config()
	c.Hops = []int{0, 31}
	for id := range 2 {
		n := node.New(c, id)
		var seen []int
		for asn := range int64(20) {
			channel, _ := n.Plan(asn)
			seen = append(seen, channel)
			n.Slot(asn, 0)
		}
		if !slices.Contains(seen, 0) || !slices.Contains(seen, 31) {
			t.Error(id, seen)
		}
	}
}

// P24.2: beacons; numbers that go round.
func TestPlanBeacon(t *testing.T) {
	hops := api.IE{Kind: api.IHops, List: []int{11, 15, 20}}
	r := newRig(t, 0)
	for i := range 600 {
		asn := int64(i) * 5
		_, b := r.n.Plan(asn)
		f, _ := frame.Decode(b)
		r.asn = asn
		r.sends(f, api.Frame{Kind: api.FBeacon, Src: 0, Dst: api.All, Seq: i % 256, IEs: []api.IE{r.beat(0), hops}})
		if r.n.Plan(asn + 1); t.Failed() {
			t.FailNow()
		}
	}
	r = synced(t)
	r.sends(r.turn(3), api.Frame{Kind: api.FBeacon, Src: 3, Dst: api.All, Seq: 0, IEs: []api.IE{r.beat(3), hops}})
	r.n.Hear(r.asn, r.beacon(4, 0), 0)
	r.sends(r.turn(3), api.Frame{Kind: api.FBeacon, Src: 3, Dst: api.All, Seq: 1, IEs: []api.IE{r.beat(1), hops}})
}

// P24.2, P24.5: asking for a sign when it is due.
func TestPlanKeep(t *testing.T) {
	r := synced(t)
	for range 5 {
		r.n.End(r.asn)
	}
	if f := r.turn(3); f.Kind != api.FBeacon {
		t.Error(f)
	}
	r.n.End(r.asn)
	want := api.Frame{Kind: api.FKeep, Src: 3, Dst: 1, Seq: 1}
	f := r.turn(3)
	want.IEs = []api.IE{r.beat(3)}
	r.sends(f, want)
	f = r.turn(3)
	want.Seq, want.IEs = 2, []api.IE{r.beat(3)}
	r.sends(f, want)
	for range 10 { // it is tried as often as it may be
		r.has(r.n.Ack(r.asn, nil, 0))
		f = r.turn(3)
	}
	r.has(r.n.Ack(r.asn, r.ack(1, 3, 2, f.Seq), 7), ev(api.EMoved, 3, 1))
	if f = r.turn(3); f.Kind != api.FBeacon {
		t.Error(f)
	}
	// a packet goes ahead of a sign
	for range 6 {
		r.n.End(r.asn)
	}
	r.n.Send(r.asn, 0, []byte("x"))
	if f = r.turn(3); f.Kind != api.FData {
		t.Error(f)
	}
	// what would go to a parent that there is not is a beacon, due or not
	r.n.Hear(r.asn, r.beacon(1, 9), 0)
	r.is(true, 3, 0, 1)
	if f = r.turn(3); f.Kind != api.FBeacon || len(f.IEs) != 2 || f.IEs[0].Rank != 3 {
		t.Error(f)
	}
	r = synced(t)
	for range 6 {
		r.n.End(r.asn)
	}
	r.n.Hear(r.asn, r.beacon(1, 3), 0)
	if f = r.turn(3); f.Kind != api.FBeacon {
		t.Error(f)
	}
	r = newRig(t, 0) // node 0 asks nobody
	for range 30 {
		r.n.Slot(0, 0)
		r.n.End(r.asn)
	}
	if f = r.turn(0); f.Kind != api.FBeacon {
		t.Error(f)
	}
}

// P24.3: coming in time.
func TestListen(t *testing.T) {
	r := newRig(t, 3)
	quiet := func(b []byte) {
		t.Helper()
		back, events := r.n.Hear(r.asn, b, 50)
		r.has(events)
		if len(back) > 0 {
			t.Error(back)
		}
		r.is(false, 255, 0, 0)
	}
	for range 10 {
		r.n.Slot(r.asn, 0)
		r.asn++
	}
	quiet(r.beacon(1, 2)) // too soon
	r.n.Slot(r.asn, 0)
	r.asn++
	quiet(nil)
	quiet(r.beacon(1, 254))
	quiet(r.beacon(1, 255))
	quiet(r.beacon(5, 2))
	quiet(r.beacon(3, 2))
	quiet(r.data(1, 3, 2, 0, []byte("x")))
	quiet(r.ack(1, 3, 2, 0))
	quiet(r.encode(api.Frame{Kind: api.FKeep, Src: 1, Dst: 3, IEs: []api.IE{r.beat(2)}}))
	bad := r.beacon(1, 2)
	bad[4] ^= 1
	quiet(bad)
	r.asn++
	late := r.beacon(1, 2)
	r.asn--
	quiet(late)
	for _, asn := range []int64{-1, api.MaxASN, big, small} {
		if back, events := r.n.Hear(asn, r.beacon(1, 2), 0); len(back)+len(events) > 0 {
			t.Error(asn, back, events)
		}
	}
	if b, events := r.n.Hear(r.asn, r.beacon(1, 253), 50); len(b) > 0 || len(events) != 4 {
		t.Error(b, events)
	}
	r.is(true, 254, 50, 0, 1)
	r = newRig(t, 3)
	for range 11 {
		r.n.Slot(r.asn, 0)
	}
	// the first ISync counts
	two := r.encode(api.Frame{Kind: api.FBeacon, Src: 4, Dst: api.All, IEs: []api.IE{{Kind: api.IHops}, r.beat(0), {Kind: api.ISync, ASN: 99, Rank: 7}}})
	wrong := r.encode(api.Frame{Kind: api.FBeacon, Src: 4, Dst: api.All, IEs: []api.IE{{Kind: api.ISync, ASN: 99, Rank: 7}, r.beat(0)}})
	quiet(wrong)
	_, events := r.n.Hear(r.asn, two, -40000)
	r.has(events, ev(api.EHeard, 3, 4), ev(api.EMoved, 3, 4), ev(api.ESynced, 3, 4), ev(api.EParent, 3, 4))
	r.is(true, 1, -30000, 0, 4)
}

// P24.3: what moves, whom it follows.
func TestHear(t *testing.T) {
	r := synced(t)
	hear := func(b []byte, measured int, want ...api.Event) {
		t.Helper()
		back, events := r.n.Hear(r.asn, b, measured)
		r.has(events, want...)
		if len(back) > 0 {
			t.Error("goes back", back)
		}
	}
	hear(r.beacon(1, 2), 20, ev(api.EHeard, 3, 1), ev(api.EMoved, 3, 1))
	r.is(true, 3, 20, 0, 1)
	hear(r.beacon(2, 2), 20, ev(api.EHeard, 3, 2))
	r.is(true, 3, 20, 0, 1, 2)
	hear(r.beacon(0, 2), -5, ev(api.EHeard, 3, 0), ev(api.EMoved, 3, 0), ev(api.EParent, 3, 0))
	r.is(true, 3, 15, 0, 0, 1, 2)
	hear(r.beacon(0, 3), -5, ev(api.EHeard, 3, 0), ev(api.EParent, 3, 1))
	r.is(true, 3, 15, 0, 1, 2)
	hear(r.beacon(4, 9), 7, ev(api.EHeard, 3, 4))
	hear(r.beacon(2, 0), 40000, ev(api.EHeard, 3, 2), ev(api.EMoved, 3, 2), ev(api.EParent, 3, 2))
	r.is(true, 1, 30015, 0, 2)
	// whatever kind, to whomever
	hear(r.data(2, 4, 0, 9, []byte("x")), -15, ev(api.EHeard, 3, 2), ev(api.EMoved, 3, 2))
	hear(r.encode(api.Frame{Kind: api.FCommand, Src: 2, Dst: 3, IEs: []api.IE{r.beat(0)}, Data: []byte("x")}), 1, ev(api.EHeard, 3, 2), ev(api.EMoved, 3, 2))
	hear(r.ack(2, 3, 0, 4, api.IE{Kind: api.ICorrect, Ticks: 99}), -1, ev(api.EHeard, 3, 2), ev(api.EMoved, 3, 2))
	hear(r.encode(api.Frame{Kind: api.FKeep, Src: 2, Dst: 0, IEs: []api.IE{r.beat(0)}}), 0, ev(api.EHeard, 3, 2), ev(api.EMoved, 3, 2))
	r.is(true, 1, 30000, 0, 2)
	// without a parent: its rank stays
	hear(r.beacon(2, 1), 100, ev(api.EHeard, 3, 2))
	r.is(true, 1, 30000, 0)
	hear(r.beacon(0, 0), small, ev(api.EHeard, 3, 0), ev(api.EMoved, 3, 0), ev(api.EParent, 3, 0))
	r.is(true, 1, 0, 0, 0)
	for _, b := range [][]byte{nil, []byte("rubbish"), r.beacon(3, 0), r.beacon(5, 0), r.beacon(15, 0), r.encode(api.Frame{Kind: api.FKeep, Src: 1, Dst: 3}), r.encode(api.Frame{Kind: api.FKeep, Src: 1, Dst: 3, IEs: []api.IE{{Kind: api.ISync, ASN: r.asn + 1}}})} {
		hear(b, 100)
	}
	r.is(true, 1, 0, 0, 0)
	// node 0 follows nobody
	r = newRig(t, 0)
	hear(r.beacon(2, 0), 100, ev(api.EHeard, 0, 2))
	r.is(true, 0, 0, 0)
}

// P24.3: what goes back.
func TestAnswer(t *testing.T) {
	for _, x := range []struct {
		src, rank, measured int
		own, ticks          int
	}{{1, 2, 20, 3, -20}, {1, 1, -20, 2, 20}, {4, 9, 5, 3, -5}, {2, 2, 40000, 3, -30000}, {2, 2, small, 3, 30000}, {0, 0, 0, 1, 0}} {
		for _, data := range []bool{true, false} {
			r := synced(t)
			b := r.encode(api.Frame{Kind: api.FKeep, Src: x.src, Dst: 3, Seq: 200, IEs: []api.IE{r.beat(x.rank)}})
			if data {
				b = r.data(x.src, 3, x.rank, 200, []byte("no packet"))
			}
			back, events := r.n.Hear(r.asn, b, x.measured)
			f, err := frame.Decode(back)
			if err != api.OK || len(events) == 0 || events[0].Kind != api.EHeard {
				t.Error(err, events)
			}
			r.sends(f, api.Frame{Kind: api.FAck, Src: 3, Dst: x.src, Seq: 200, IEs: []api.IE{r.beat(x.own), {Kind: api.ICorrect, Ticks: x.ticks}}})
		}
	}
	r := newRig(t, 0)
	back, events := r.n.Hear(7, nil, 0)
	if len(back)+len(events) > 0 {
		t.Error(back, events)
	}
	back, events = r.n.Hear(r.asn, r.encode(api.Frame{Kind: api.FKeep, Src: 4, Dst: 0, Seq: 9, IEs: []api.IE{r.beat(3)}}), -8)
	f, _ := frame.Decode(back)
	r.sends(f, api.Frame{Kind: api.FAck, Src: 0, Dst: 4, Seq: 9, IEs: []api.IE{r.beat(0), {Kind: api.ICorrect, Ticks: 8}}})
	r.has(events, ev(api.EHeard, 0, 4))
}

// P24.3: what leaves it without a parent is heard, and no more is done: whatever it is, from whomever.
func TestHearWithoutParent(t *testing.T) {
	mine := api.Packet{From: 2, To: 3, N: 5, Life: 5, Path: []int{0, 1, 3}, Data: []byte("x")}
	up := api.Packet{From: 4, To: 0, N: 6, Life: 5, Path: []int{4}, Data: []byte("x")}
	down := api.Packet{From: 0, To: 4, N: 7, Life: 5, Path: []int{0, 1, 3, 4}, Data: []byte("x")}
	frames := func(r *rig, src, rank int) [][]byte {
		sign := api.Frame{Kind: api.FKeep, Src: src, Dst: 3, IEs: []api.IE{r.beat(rank)}}
		command := api.Frame{Kind: api.FCommand, Src: src, Dst: 3, IEs: []api.IE{r.beat(rank)}, Data: []byte("x")}
		return [][]byte{
			r.encode(sign), r.encode(command), r.beacon(src, rank), r.ack(src, 3, rank, 0),
			r.data(src, 3, rank, 0, r.packet(mine)), r.data(src, 3, rank, 0, r.packet(up)), r.data(src, 3, rank, 0, r.packet(down)),
		}
	}
	for i := range frames(synced(t), 1, 3) {
		r := synced(t)
		r.n.Slot(r.asn, 0)
		// of its parent, whose rank is no longer below its own; then of one that it never followed
		for _, src := range []int{1, 4} {
			back, events := r.n.Hear(r.asn, frames(r, src, 3)[i], 20)
			r.has(events, ev(api.EHeard, 3, src))
			if len(back) > 0 {
				t.Errorf("%d: goes back: %x", i, back)
			}
			r.is(true, 3, 0, 0)
		}
		// it follows somebody again: a packet that was not looked at is new
		_, events := r.n.Hear(r.asn, r.data(2, 3, 2, 0, r.packet(mine)), 20)
		r.has(events, ev(api.EHeard, 3, 2), ev(api.EMoved, 3, 2), ev(api.EParent, 3, 2), gotten(3, mine))
		r.has(r.take(2, 2, up))
		r.has(r.take(2, 2, down))
		r.is(true, 3, 20, 2, 2)
	}
	// another parent is left: it is answered, and goes on
	r := synced(t)
	r.n.Hear(r.asn, r.beacon(2, 2), 0)
	r.has(r.take(1, 3, mine), ev(api.EParent, 3, 2), gotten(3, mine))
	// the last one is left: at the end of the slot it is lost, and nothing was put into the queue
	r.n.Hear(r.asn, r.data(2, 3, 3, 0, r.packet(up)), 0)
	r.is(true, 3, 0, 0)
	r.has(r.n.End(r.asn), ev(api.ELost, 3, 0))
}

// P24.6: parents that are silent.
func TestEnd(t *testing.T) {
	r := synced(t)
	start := r.asn
	r.asn += 3
	r.n.Hear(r.asn, r.beacon(2, 2), 0)
	for _, asn := range []int64{-1, api.MaxASN, big, small, start + 9} {
		r.has(r.n.End(asn))
	}
	r.is(true, 3, 0, 0, 1, 2)
	r.has(r.n.End(start+10), ev(api.EParent, 3, 2))
	r.is(true, 3, 0, 0, 2)
	r.has(r.n.End(start + 12))
	r.n.Send(start+12, 0, []byte("a"))
	r.n.Send(start+12, 4, []byte("b"))
	f := r.turn(3)
	life := config().Life
	first := api.Packet{From: 3, To: 0, N: int(start+12) * 64, Life: life, Path: []int{3}, Data: []byte("a")}
	second := api.Packet{From: 3, To: 4, N: int(start+12)*64 + 1, Life: life, Path: []int{3}, Data: []byte("b")}
	r.has(r.n.End(start+13), ev(api.ELost, 3, 0), dropped(3, 3, first), dropped(3, 3, second))
	r.is(false, 255, 0, 0)
	r.has(r.n.Ack(r.asn, r.ack(2, 3, 2, f.Seq), 0))
	r.has(r.n.Ack(r.asn, nil, 0))
	r.has(r.n.End(start + 14))
	// it listens again as long as at first; what it sent is forgotten
	for i := range 11 {
		_, events := r.n.Hear(r.asn, r.beacon(2, 7), 0)
		r.has(events)
		r.n.Slot(r.asn, i)
	}
	_, events := r.n.Hear(r.asn, r.beacon(2, 7), 0)
	if len(events) != 4 {
		t.Error(events)
	}
	r.is(true, 8, 0, 0, 2)
	r.has(r.n.Ack(r.asn, r.ack(2, 3, 2, f.Seq), 0))
	r.is(true, 8, 0, 0, 2)
	// what Hear left without a parent is lost at the end
	r.n.Hear(r.asn, r.beacon(2, 8), 0)
	r.has(r.n.End(r.asn), ev(api.ELost, 3, 0))
	r = newRig(t, 0)
	for asn := range int64(100) {
		r.has(r.n.End(asn))
	}
	r.is(true, 0, 0, 0)
}

// P24.7: what is sent.
func TestSend(t *testing.T) {
	r := synced(t)
	send := func(asn int64, to int, data []byte, want int, wantErr api.Errno) {
		t.Helper()
		if n, err := r.n.Send(asn, to, data); n != want || err != wantErr {
			t.Errorf("%d %d, not %d %d", n, err, want, wantErr)
		}
	}
	x := []byte("x")
	for _, asn := range []int64{-1, api.MaxASN, big, small} {
		send(asn, 0, x, 0, api.ErrArg)
	}
	for _, to := range []int{3, -1, 5, 16, api.All, big, small} {
		send(20, to, x, 0, api.ErrArg)
	}
	send(20, 0, nil, 0, api.ErrArg)
	send(20, 0, make([]byte, 25), 0, api.ErrArg)
	r.is(true, 3, 0, 0, 1)
	data := bytes.Repeat([]byte("d"), 24)
	send(20, 0, data, 1280, api.OK)
	data[0] = 'e'
	send(20, 4, x, 1281, api.OK)
	send(20, 4, x, 0, api.ErrFull)
	send(20, 3, x, 0, api.ErrArg)
	r.is(true, 3, 0, 2, 1)
	f := r.turn(3)
	r.sends(f, r.frameOf(api.Packet{From: 3, To: 0, N: 1280, Life: 5, Path: []int{3}, Data: bytes.Repeat([]byte("d"), 24)}, 3, 1, 3, 0))
	r.n.Ack(r.asn, r.ack(1, 3, 2, 0), 0)
	r.is(true, 3, 0, 1, 1)
	send(3, 2, x, 1282, api.OK) // an elder slot: still one more
	f = r.turn(3)
	r.sends(f, r.frameOf(api.Packet{From: 3, To: 4, N: 1281, Life: 5, Path: []int{3}, Data: x}, 3, 1, 3, 1))
	r.n.Ack(r.asn, r.ack(1, 3, 2, 1), 0)
	send(api.MaxASN-1, 0, x, 1<<46-64, api.OK)
	for i := 1; i < 64; i++ {
		f = r.turn(3)
		r.n.Ack(r.asn, r.ack(1, 3, 2, f.Seq), 0)
		send(20, 0, x, 1<<46-64+i, api.OK)
	}
	f = r.turn(3)
	r.n.Ack(r.asn, r.ack(1, 3, 2, f.Seq), 0)
	send(20, 0, x, 0, api.ErrFull)
	send(api.MaxASN-1, 0, x, 0, api.ErrFull)
	r.n.Hear(r.asn, r.beacon(1, 3), 0) // without a parent
	send(20, 0, x, 0, api.ErrState)
	r = newRig(t, 1)
	send(20, 0, x, 0, api.ErrState)
	send(20, 1, x, 0, api.ErrArg)
	r = newRig(t, 0)
	send(20, 1, x, 0, api.ErrNone)
	send(20, 0, x, 0, api.ErrArg)
}

// frameOf is the frame that carries p.
func (r *rig) frameOf(p api.Packet, src, dst, rank, seq int) api.Frame {
	r.t.Helper()
	return api.Frame{Kind: api.FData, Src: src, Dst: dst, Seq: seq, IEs: []api.IE{r.beat(rank)}, Data: r.packet(p)}
}

// P24.5: what came back.
func TestAck(t *testing.T) {
	r := synced(t)
	p := api.Packet{From: 3, To: 0, N: 64 * 11, Life: 5, Path: []int{3}, Data: []byte("x")}
	r.n.Send(r.asn, 0, p.Data)
	r.n.Send(r.asn, 0, []byte("y"))
	f := r.turn(3)
	r.has(r.n.Ack(r.asn+1, r.ack(1, 3, 2, f.Seq), 0))
	r.has(r.n.Ack(-1, nil, 0))
	r.n.Plan(r.asn + 1) // it listens: what was sent last stays that
	ticks := api.IE{Kind: api.ICorrect, Ticks: -32768}
	good := r.ack(1, 3, 2, f.Seq, ticks, api.IE{Kind: api.ICorrect, Ticks: 5})
	r.has(r.n.Ack(r.asn, good, 999), ev(api.EMoved, 3, 1))
	r.is(true, 3, -32768, 1, 1)
	r.has(r.n.Ack(r.asn, good, 0))
	r.is(true, 3, -32768, 1, 1)
	// what is no answer: tried once more, once for each time it was sent
	for i := range 7 {
		f = r.turn(3)
		bad := [][]byte{
			nil, r.ack(2, 3, 2, f.Seq), r.ack(1, 2, 2, f.Seq), r.ack(1, 3, 2, f.Seq^1),
			r.encode(api.Frame{Kind: api.FKeep, Src: 1, Dst: 3, Seq: f.Seq, IEs: []api.IE{r.beat(2)}}), r.encode(api.Frame{Kind: api.FAck, Src: 1, Dst: 3, Seq: f.Seq}),
			r.encode(api.Frame{Kind: api.FAck, Src: 1, Dst: 3, Seq: f.Seq, IEs: []api.IE{{Kind: api.ISync, ASN: r.asn - 5, Rank: 2}}}),
		}
		r.has(r.n.Ack(r.asn, bad[i], 0))
		r.has(r.n.Ack(r.asn, nil, 0))
		r.is(true, 3, -32768, 1, 1)
	}
	f = r.turn(3)
	r.has(r.n.Ack(r.asn, []byte("rubbish"), 0), dropped(3, 4, api.Packet{From: 3, To: 0, N: 64*11 + 1, Life: 5, Path: []int{3}, Data: []byte("y")}))
	r.is(true, 3, -32768, 0, 1)
	// the count begins anew with each packet
	for _, came := range []bool{true, false} {
		r.n.Send(r.asn, 0, []byte("z"))
		for range 7 {
			f = r.turn(3)
			r.has(r.n.Ack(r.asn, nil, 0))
			r.is(true, 3, -32768, 1, 1)
		}
		f = r.turn(3)
		if came {
			r.has(r.n.Ack(r.asn, r.ack(1, 3, 2, f.Seq), 0), ev(api.EMoved, 3, 1))
		} else if events := r.n.Ack(r.asn, nil, 0); len(events) != 1 || events[0].Code != 4 {
			t.Error(events)
		}
		r.is(true, 3, -32768, 0, 1)
	}
	// of a beacon nothing comes back
	f = r.turn(3)
	r.has(r.n.Ack(r.asn, r.ack(1, 3, 2, f.Seq), 0))
	r.is(true, 3, -32768, 0, 1)
}

// P24.5: whom it follows by an answer.
func TestAckFollows(t *testing.T) {
	send := func() (*rig, api.Frame) {
		r := synced(t)
		r.n.Hear(r.asn, r.beacon(2, 2), 0)
		r.n.Send(r.asn, 0, []byte("x"))
		return r, r.turn(3)
	}
	correct := api.IE{Kind: api.ICorrect, Ticks: 9}
	r, f := send()
	r.has(r.n.Ack(r.asn, r.ack(1, 3, 0, f.Seq, correct), 0), ev(api.EMoved, 3, 1))
	r.is(true, 1, 9, 0, 1)
	r, f = send()
	r.has(r.n.Ack(r.asn, r.ack(1, 3, 3, f.Seq, correct), 0), ev(api.EParent, 3, 2))
	r.is(true, 3, 0, 0, 2)
	r, f = send()
	r.n.Hear(r.asn, r.beacon(2, 9), 0)
	r.has(r.n.Ack(r.asn, r.ack(1, 3, 3, f.Seq, correct), 0))
	r.is(true, 3, 0, 0)
	r.has(r.n.End(r.asn), ev(api.ELost, 3, 0))
	// whom it was sent to is its first parent no more
	r, f = send()
	r.n.Hear(r.asn, r.beacon(0, 2), 0)
	r.has(r.n.Ack(r.asn, r.ack(1, 3, 0, f.Seq, correct), 0))
	r.is(true, 3, 0, 0, 0, 1, 2)
	// whom it was sent to left it without a parent
	r = synced(t)
	r.n.Hear(r.asn, r.beacon(0, 1), 0)
	r.n.Send(r.asn, 0, []byte("x"))
	f = r.turn(3)
	r.n.Hear(r.asn, r.beacon(0, 9), 0)
	r.has(r.n.Ack(r.asn, r.ack(0, 3, 1, f.Seq, correct), 0))
	r.is(true, 2, 0, 0)
	// a sign of life: the parent is heard at that slot
	r, f = send()
	r.n.Ack(r.asn, r.ack(1, 3, 2, f.Seq), 0)
	r.has(r.n.End(r.asn + 9))
	r.is(true, 3, 0, 0, 1)
}

// P24.7: it begins anew, but for its clock.
func TestReboot(t *testing.T) {
	r := synced(t)
	r.n.Slot(r.asn, 100)
	r.n.Hear(r.asn, r.beacon(1, 2), 77)
	r.n.Send(r.asn, 0, []byte("x"))
	p := api.Packet{From: 1, To: 3, N: 5, Life: 5, Data: []byte("x")}
	_, events := r.n.Hear(r.asn, r.data(1, 3, 2, 0, r.packet(p)), 0)
	r.has(events, ev(api.EHeard, 3, 1), ev(api.EMoved, 3, 1), gotten(3, p))
	f := r.turn(3)
	r.n.Reboot()
	r.is(false, 255, 78, 0)
	r.has(r.n.Ack(r.asn, r.ack(1, 3, 2, f.Seq), 0))
	for range 11 {
		_, events := r.n.Hear(r.asn, r.beacon(1, 2), 0)
		r.has(events)
		r.n.Slot(r.asn, 0)
	}
	r.n.Hear(r.asn, r.beacon(1, 2), 0)
	r.is(true, 3, 78, 0, 1)
	if f := r.turn(3); f.Seq != 0 {
		t.Error(f)
	}
	_, events = r.n.Hear(r.asn, r.data(1, 3, 2, 0, r.packet(p)), 0)
	r.has(events, ev(api.EHeard, 3, 1), ev(api.EMoved, 3, 1), gotten(3, p))
	if n, err := r.n.Send(0, 0, []byte("x")); n != 0 || err != api.OK {
		t.Error(n, err)
	}
	r = newRig(t, 0)
	r.turn(0)
	r.n.Reboot()
	if f := r.turn(0); f.Seq != 1 {
		t.Error(f)
	}
	r.is(true, 0, 0, 0)
}

// P24.7: nil.
func TestNil(t *testing.T) {
	r := &rig{t: t}
	r.n.Slot(0, 1)
	r.n.Reboot()
	channel, b := r.n.Plan(0)
	back, events := r.n.Hear(0, r.beacon(1, 0), 0)
	if n, err := r.n.Send(0, 1, []byte("x")); channel != -1 || len(b)+len(back) > 0 || n != 0 || err != api.ErrArg {
		t.Error("a nil node has something")
	}
	r.has(events)
	r.has(r.n.Ack(0, nil, 0))
	r.has(r.n.End(0))
	r.is(false, 255, 0, 0)
}
