package node_test

import (
	"bytes"
	"math/rand"
	"slices"
	"testing"

	"campanile/api"
	"campanile/crc"
	"campanile/frame"
	"campanile/node"
)

// take: the node hears p from src, of rank; what happened behind EHeard and EMoved.
func (r *rig) take(src, rank int, p api.Packet) []api.Event {
	r.t.Helper()
	back, events := r.n.Hear(r.asn, r.data(src, r.id(), rank, 7, r.packet(p)), 0)
	f, err := frame.Decode(back)
	if err != api.OK || f.Kind != api.FAck || f.Dst != src {
		r.t.Errorf("%+v %d", f, err)
	}
	return slices.DeleteFunc(events, func(e api.Event) bool { return e.Kind == api.EHeard || e.Kind == api.EMoved })
}

// id is 0 or 3: those that are built here.
func (r *rig) id() int {
	if r.n.Rank() == 0 {
		return 0
	}
	return 3
}

// waits is what the node sends next, which came to its end then.
func (r *rig) waits(p api.Packet, dst int) {
	r.t.Helper()
	f := r.turn(r.id())
	r.sends(f, r.frameOf(p, r.id(), dst, r.n.Rank(), f.Seq))
	r.n.Ack(r.asn, r.ack(dst, r.id(), 2, f.Seq), 0)
}

// P24.4: what is no packet of this mesh.
func TestNoPacket(t *testing.T) {
	p := api.Packet{From: 1, To: 3, N: 1, Life: 1, Path: []int{1}, Data: []byte("x")}
	for i, f := range []func(*api.Packet){
		func(p *api.Packet) { p.From = 5 }, func(p *api.Packet) { p.From = 15 }, func(p *api.Packet) { p.To = 5 }, func(p *api.Packet) { p.To = 15 }, func(p *api.Packet) { p.Path = []int{1, 5} }, func(p *api.Packet) { p.Path = []int{15} },
	} {
		for _, r := range []*rig{synced(t), newRig(t, 0)} {
			q := p
			f(&q)
			if events := r.take(1, 2, q); len(events) > 0 || r.n.Waiting() > 0 {
				t.Error(i, events)
			}
		}
	}
	r := synced(t)
	for _, data := range [][]byte{[]byte("x"), append(r.packet(p), 0), r.packet(p)[:5]} {
		if _, events := r.n.Hear(r.asn, r.data(1, 3, 2, 7, data), 0); len(events) != 2 {
			t.Error(events)
		}
	}
	// not to it: heard, and no more
	if _, events := r.n.Hear(r.asn, r.data(1, 4, 2, 7, r.packet(p)), 0); len(events) != 2 {
		t.Error(events)
	}
	command := r.encode(api.Frame{Kind: api.FCommand, Src: 1, Dst: 3, IEs: []api.IE{r.beat(2)}, Data: r.packet(p)})
	if back, events := r.n.Hear(r.asn, command, 0); len(back) > 0 || len(events) != 2 {
		t.Error(back, events)
	}
	r.has(r.take(1, 2, p), gotten(3, p))
}

// P24.4: to it.
func TestGot(t *testing.T) {
	r := synced(t)
	p := api.Packet{From: 1, To: 3, N: 70, Life: 0, Path: []int{4}, Data: []byte("x")}
	r.has(r.take(1, 2, p), gotten(3, p))
	r.has(r.take(1, 2, p), dropped(3, 5, p))
	p.N, p.Path = 69, nil
	r.has(r.take(2, 2, p), gotten(3, p))
	p.From = 4
	r.has(r.take(1, 2, p), gotten(3, p))
	p.N = 134
	r.has(r.take(1, 2, p), gotten(3, p))
	p.N = 70
	r.has(r.take(1, 2, p), dropped(3, 5, p))
	r.is(true, 3, 0, 0, 1, 2)
}

// P24.4, P24.7: the ways that node 0 learns.
func TestLearn(t *testing.T) {
	sends := func(r *rig, path ...int) {
		t.Helper()
		number, err := r.n.Send(r.asn, 3, []byte("d"))
		if len(path) == 0 {
			if err != api.ErrNone {
				t.Error(err)
			}
			return
		}
		if err != api.OK {
			t.Error(err)
		}
		r.waits(api.Packet{From: 0, To: 3, N: number, Life: 5, Path: path, Data: []byte("d")}, path[1])
	}
	r := newRig(t, 0)
	sends(r)
	p := api.Packet{From: 3, To: 0, N: 1, Path: []int{1, 3}, Data: []byte("x")}
	come := func(path ...int) {
		t.Helper()
		p.N++
		p.Path = path
		r.has(r.take(1, 2, p), gotten(0, p))
	}
	for _, path := range [][]int{nil, {1, 3}, {1}, {3, 0}, {3, 1, 0}} {
		come(path...)
		sends(r)
	}
	come(3)
	sends(r, 0, 3)
	come(3, 2, 1)
	sends(r, 0, 1, 2, 3)
	for _, path := range [][]int{nil, {1, 3}, {3, 0}} {
		come(path...)
		sends(r, 0, 1, 2, 3)
	}
	// heard before: nothing is learnt
	p.Path = []int{3}
	r.has(r.take(1, 2, p), dropped(0, 5, p))
	sends(r, 0, 1, 2, 3)
	// another node's packet says nothing of 3
	p.From, p.Path = 4, []int{4, 3}
	r.has(r.take(1, 2, p), gotten(0, p))
	sends(r, 0, 1, 2, 3)
	if n, err := r.n.Send(r.asn, 4, []byte("x")); n == 0 || err != api.OK {
		t.Error(n, err)
	}
}

// P24.4: a path that is too long is not learnt.
func TestLearnLong(t *testing.T) {
	c := config()
	c.Nodes, c.Near = 16, make([]uint64, 16)
	for _, n := range []int{14, 15} {
		r := &rig{t: t, n: node.New(c, 0)}
		p := api.Packet{From: 1, To: 0, N: 1, Data: []byte("x")}
		for i := range n {
			p.Path = append(p.Path, i+1)
		}
		r.has(r.take(1, 2, p), gotten(0, p))
		if _, err := r.n.Send(0, 1, []byte("x")); err != api.OK {
			t.Error(n, err)
		}
	}
}

// P24.4: on its way up.
func TestUp(t *testing.T) {
	r := synced(t)
	p := api.Packet{From: 4, To: 0, N: 9, Life: 2, Path: []int{4}, Data: []byte("x")}
	r.has(r.take(4, 9, p))
	q := p
	q.Life, q.Path = 1, []int{4, 3}
	r.is(true, 3, 0, 1, 1)
	r.waits(q, 1)
	r.has(r.take(4, 9, p), dropped(3, 5, p))
	r.is(true, 3, 0, 0, 1)
	p.N, p.Life = 10, 0
	r.has(r.take(4, 9, p), dropped(3, 2, p))
	r.has(r.take(4, 9, p), dropped(3, 5, p))
	// it goes to whom is the first parent when it is sent
	p.N, p.Life, p.Path, p.To = 11, 5, []int{2, 0, 3}, 1
	r.has(r.take(4, 9, p))
	r.n.Hear(r.asn, r.beacon(0, 2), 0)
	q = p
	q.Life = 4
	r.waits(q, 0)
	// no room
	for i := range 3 {
		p.N = 12 + i
		if events := r.take(4, 9, p); i < 2 {
			r.has(events)
		} else {
			r.has(events, dropped(3, 1, p))
		}
	}
	r.is(true, 3, 0, 2, 0, 1)
	// its own packet, from another one: no other than any
	own := api.Packet{From: 3, To: 4, N: 1, Life: 3, Path: []int{3}, Data: []byte("x")}
	r = synced(t)
	r.has(r.take(4, 9, own))
	own.Life = 2
	r.waits(own, 1)
}

// P24.4: on its way down.
func TestDown(t *testing.T) {
	r := synced(t)
	p := api.Packet{From: 2, To: 4, N: 9, Life: 2, Path: []int{0, 1, 3, 4}, Data: []byte("x")}
	r.has(r.take(1, 2, p))
	q := p
	q.Life = 1
	r.waits(q, 4)
	r.has(r.take(1, 2, p), dropped(3, 5, p))
	p.N, p.Life = 10, 0
	r.has(r.take(1, 2, p), dropped(3, 2, p))
	p.N, p.Life, p.Path = 11, 5, []int{0, 1, 4}
	r.has(r.take(1, 2, p), dropped(3, 3, p))
	p.N, p.Path = 12, []int{0, 1, 3}
	r.has(r.take(1, 2, p), dropped(3, 3, p))
	p.N, p.Path = 13, []int{0}
	r.has(r.take(1, 2, p), dropped(3, 3, p))
	// of one number up and down are two
	p.N, p.Path = 9, []int{4}
	r.has(r.take(1, 2, p))
	p.N, p.Path = 14, []int{0, 3, 1}
	r.has(r.take(1, 2, p))
	p.N = 15
	r.has(r.take(1, 2, p), dropped(3, 1, p))
	r.is(true, 3, 0, 2, 1)
}

// P24.4: at node 0 what came up goes down.
func TestTurn(t *testing.T) {
	r := newRig(t, 0)
	r.has(r.take(1, 2, api.Packet{From: 4, To: 0, N: 1, Path: []int{4, 3, 1}, Data: []byte("x")}), gotten(0, api.Packet{From: 4, To: 0, N: 1, Path: []int{4, 3, 1}, Data: []byte("x")}))
	p := api.Packet{From: 2, To: 3, N: 9, Life: 0, Path: []int{2}, Data: []byte("y")}
	r.has(r.take(2, 2, p), dropped(0, 3, p))
	p.N, p.To = 10, 4
	r.has(r.take(2, 2, p))
	q := p
	q.Life, q.Path = 4, []int{0, 1, 3, 4}
	r.waits(q, 1)
	r.has(r.take(2, 2, p), dropped(0, 5, p))
	// a path that begins with node 0 makes no difference there
	p.N, p.Path = 11, []int{0, 2}
	r.has(r.take(2, 2, p))
	q.N = 11
	r.waits(q, 1)
	p.N, p.From, p.Path = 11, 0, nil
	r.has(r.take(2, 2, p))
	p.N, p.From = 12, 1
	r.has(r.take(2, 2, p))
	p.N = 13
	r.has(r.take(2, 2, p), dropped(0, 1, p))
	r.is(true, 0, 0, 2)
}

// T5: whatever bytes come, no queue is beyond its bound, ranks do not rise, nothing panics.
func TestRubbish(t *testing.T) {
	rnd := rand.New(rand.NewSource(24))
	for range 300 {
		r := synced(t)
		rank := r.n.Rank()
		for range 200 {
			r.asn += int64(rnd.Intn(3))
			b := rubbish(r, rnd)
			was := bytes.Clone(b)
			switch rnd.Intn(6) {
			case 0:
				r.n.Ack(r.asn, b, 0)
			case 1:
				r.n.Plan(r.asn)
			case 2:
				r.n.End(r.asn)
			default:
				r.n.Hear(r.asn, b, rnd.Intn(100)-50)
			}
			if !bytes.Equal(was, b) {
				t.Fatal("changed")
			}
			if !r.n.Synced() {
				if r.n.Rank() != 255 || r.n.Waiting() > 0 || len(r.n.Parents()) > 0 {
					t.Fatal(r.n.Rank(), r.n.Waiting())
				}
				break
			}
			if r.n.Rank() > rank || r.n.Waiting() > 2 || len(r.n.Parents()) > 3 {
				t.Fatal(r.n.Rank(), rank, r.n.Waiting(), r.n.Parents())
			}
			rank = r.n.Rank()
		}
	}
}

// rubbish is some frame, or next to one.
func rubbish(r *rig, rnd *rand.Rand) []byte {
	p := api.Packet{From: rnd.Intn(5), To: rnd.Intn(5), N: rnd.Intn(300), Life: rnd.Intn(4), Path: rnd.Perm(6)[:rnd.Intn(5)], Data: []byte("x")}
	if p.From == p.To {
		p.To = (p.To + 1) % 5
	}
	f := api.Frame{Kind: 1 + rnd.Intn(5), Src: rnd.Intn(7), Dst: 3, Seq: rnd.Intn(256), IEs: []api.IE{r.beat(rnd.Intn(8))}}
	switch f.Kind {
	case api.FBeacon:
		f.Dst = api.All
	case api.FData, api.FCommand:
		f.Data = r.packet(p)
	}
	if f.Src == f.Dst {
		f.Src = 4
	}
	b := r.encode(f)
	if rnd.Intn(4) == 0 {
		b[rnd.Intn(len(b))]++
		if rnd.Intn(2) == 0 {
			b = crc.Append(b[:len(b)-2])
		}
	}
	return b
}
