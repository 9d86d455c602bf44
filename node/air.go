package node

import (
	"campanile/api"
	"campanile/frame"
	"campanile/hop"
	"campanile/ie"
	"campanile/keep"
	"campanile/parents"
)

const (
	seqs         = 256
	mostMeasured = 30000
	topRank      = 254 // of whom nobody begins to follow any more
	mostTries    = 8
)

// Plan tells on which channel it is in a slot, and what it sends; without bytes it listens.
func (n *Node) Plan(asn int64) (int, []byte) {
	if !n.lives() || !isASN(asn) {
		return -1, nil
	}
	nodes, hops := int64(n.config.Nodes), n.config.Hops
	if !n.inTime {
		// so long on one channel that each node has its turn on it
		turn := n.clock.Slots() / (nodes * int64(len(hops)))
		return hop.Channel(hops, 0, turn, 0), nil
	}
	channel := hop.Channel(hops, 0, asn, 0)
	if asn%nodes != int64(n.id) {
		return channel, nil
	}
	f := n.next(asn)
	b, err := frame.Encode(f)
	if err != api.OK {
		return channel, nil
	}
	n.seq = (n.seq + 1) % seqs
	n.sent = sending{open: f.Kind != api.FBeacon, asn: asn, kind: f.Kind, dst: f.Dst, seq: f.Seq}
	return channel, b
}

// next is the frame that it sends now.
func (n *Node) next(asn int64) api.Frame {
	f := api.Frame{Kind: api.FBeacon, Src: n.id, Dst: api.All, Seq: n.seq, IEs: []api.IE{n.beat(asn)}}
	first, follows := n.set.First()
	if b, waits := n.queue.At(0); waits {
		to := n.queue.To()[0]
		if to == api.All && follows {
			to = first
		}
		if to != api.All {
			f.Kind, f.Dst, f.Data = api.FData, to, b
			return f
		}
	} else if n.id != root && n.keeper.Due() && follows {
		f.Kind, f.Dst = api.FKeep, first
		return f
	}
	f.IEs = append(f.IEs, api.IE{Kind: api.IHops, List: n.config.Hops})
	return f
}

// beat is the element that each of its frames has.
func (n *Node) beat(asn int64) api.IE {
	return api.IE{Kind: api.ISync, ASN: asn, Rank: n.Rank()}
}

// read is the frame that b is, and the rank it tells, if it is one of this slot, of another node of the mesh.
func (n *Node) read(asn int64, b []byte) (api.Frame, int, bool) {
	if !isASN(asn) {
		return api.Frame{}, 0, false
	}
	f, err := frame.Decode(b)
	if err != api.OK || !n.knows(f.Src) || f.Src == n.id {
		return api.Frame{}, 0, false
	}
	beat, found := ie.Find(f.IEs, api.ISync)
	if !found || beat.ASN != asn {
		return api.Frame{}, 0, false
	}
	return f, beat.Rank, true
}

// Hear is that it heard bytes, and should move its clock by measured; what goes back, and what happened.
func (n *Node) Hear(asn int64, b []byte, measured int) ([]byte, []api.Event) {
	if !n.lives() {
		return nil, nil
	}
	f, rank, ok := n.read(asn, b)
	if !ok {
		return nil, nil
	}
	measured = min(max(measured, -mostMeasured), mostMeasured)
	if !n.inTime {
		return nil, n.begin(f, rank, asn, measured)
	}
	events := []api.Event{n.event(api.EHeard, f.Src)}
	if n.id != root {
		moved, follows := n.follow(f.Src, rank, asn, measured)
		if !follows {
			// nobody tells it the time any more, so it does not answer for it either: End sees to the rest
			return nil, events
		}
		events = append(events, moved...)
	}
	if f.Dst != n.id || f.Kind != api.FData && f.Kind != api.FKeep {
		return nil, events
	}
	back := n.answer(f, asn, measured)
	if f.Kind == api.FData {
		events = append(events, n.packet(f.Data)...)
	}
	return back, events
}

// begin comes in time by a beacon, once it has listened so long that nobody follows it any more.
func (n *Node) begin(f api.Frame, rank int, asn int64, measured int) []api.Event {
	if f.Kind != api.FBeacon || rank >= topRank || n.listened <= n.config.Loss {
		return nil
	}
	n.clock.Move(measured)
	n.inTime = true
	n.set = parents.New(n.id, rank+1)
	n.set.Hear(f.Src, rank, asn)
	n.keeper = keep.New(n.config.Keep)
	return []api.Event{
		n.event(api.EHeard, f.Src), n.event(api.EMoved, f.Src),
		n.event(api.ESynced, f.Src), n.event(api.EParent, f.Src),
	}
}

// follow hears the rank of src; if that one is its first parent then, its clock moves. It tells whether a parent is left.
func (n *Node) follow(src, rank int, asn int64, ticks int) ([]api.Event, bool) {
	was, had := n.set.First()
	n.set.Hear(src, rank, asn)
	now, has := n.set.First()
	if !has {
		return nil, false
	}
	var events []api.Event
	if now == src {
		n.clock.Move(ticks)
		n.keeper.Heard()
		events = append(events, n.event(api.EMoved, src))
	}
	if !had || now != was {
		events = append(events, n.event(api.EParent, now))
	}
	return events, true
}

// answer is the sign that f was heard.
func (n *Node) answer(f api.Frame, asn int64, measured int) []byte {
	correct := api.IE{Kind: api.ICorrect, Ticks: -measured}
	b, _ := frame.Encode(api.Frame{Kind: api.FAck, Src: n.id, Dst: f.Src, Seq: f.Seq, IEs: []api.IE{n.beat(asn), correct}})
	return b
}

// Ack is what came back to what it sent. What was measured says nothing: the clock moves by what is told.
func (n *Node) Ack(asn int64, b []byte, measured int) []api.Event {
	if !n.Synced() || !n.sent.open || n.sent.asn != asn {
		return nil
	}
	n.sent.open = false
	f, rank, ok := n.read(asn, b)
	if !ok || f.Kind != api.FAck || f.Src != n.sent.dst || f.Dst != n.id || f.Seq != n.sent.seq {
		return n.missed()
	}
	if n.sent.kind == api.FData {
		n.leave()
	}
	first, follows := n.set.First()
	if n.id == root || !follows || first != f.Src {
		return nil
	}
	correct, _ := ie.Find(f.IEs, api.ICorrect)
	events, _ := n.follow(f.Src, rank, asn, correct.Ticks)
	return events
}

// missed is that nothing came back.
func (n *Node) missed() []api.Event {
	if n.sent.kind != api.FData {
		return nil
	}
	n.tries++
	if n.tries < mostTries {
		return nil
	}
	return n.dropFirst(triedTooOften)
}

// End is the end of a slot: who was not heard for too long is lost.
func (n *Node) End(asn int64) []api.Event {
	if !n.Synced() || !isASN(asn) || n.id == root {
		return nil
	}
	n.keeper.Slot()
	was, _ := n.set.First()
	n.set.Old(asn, n.config.Loss)
	now, has := n.set.First()
	if !has {
		return n.lose()
	}
	if now != was {
		return []api.Event{n.event(api.EParent, now)}
	}
	return nil
}

// lose makes it be in time no more.
func (n *Node) lose() []api.Event {
	n.inTime, n.listened = false, 0
	n.set, n.keeper = nil, nil
	n.sent = sending{}
	events := []api.Event{{Kind: api.ELost, I: n.id}}
	for n.queue.Len() > 0 {
		events = append(events, n.dropFirst(noWay)...)
	}
	return events
}

func (n *Node) event(kind, src int) api.Event {
	return api.Event{Kind: kind, I: n.id, Src: src}
}
