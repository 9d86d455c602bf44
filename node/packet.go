package node

import (
	"slices"

	"campanile/api"
	"campanile/route"
)

// Why a packet is dropped.
const (
	noRoom        = 1
	noLife        = 2
	noWay         = 3
	triedTooOften = 4
	wasHere       = 5
)

// packet is what becomes of the packet of a frame.
func (n *Node) packet(b []byte) []api.Event {
	p, err := route.Decode(b)
	if err != api.OK || !n.knows(p.From) || !n.knows(p.To) || !n.knowsAll(p.Path) {
		return nil
	}
	if p.To == n.id {
		return n.arrive(p)
	}
	isDown := n.id != root && len(p.Path) > 0 && p.Path[0] == root
	window := n.up
	if isDown {
		window = n.down
	}
	switch {
	case !window.New(p.From, p.N):
		return n.dropped(p, wasHere)
	case isDown:
		return n.handDown(p, p)
	case n.id == root:
		return n.turn(p)
	}
	return n.handUp(p)
}

// arrive is a packet to it.
func (n *Node) arrive(p api.Packet) []api.Event {
	if !n.got.New(p.From, p.N) {
		return n.dropped(p, wasHere)
	}
	if n.id == root {
		n.learn(p)
	}
	return []api.Event{{Kind: api.EGot, I: n.id, Packet: p}}
}

// learn keeps the way that a packet came, the other way.
func (n *Node) learn(p api.Packet) {
	if len(p.Path) == 0 || p.Path[0] != p.From || len(p.Path) >= api.MaxList || slices.Contains(p.Path, root) {
		return
	}
	n.paths[p.From] = append([]int{root}, route.Back(p.Path)...)
}

// handDown hands p on down its path; came is p as it came.
func (n *Node) handDown(came, p api.Packet) []api.Event {
	next, to, err := route.Down(p, n.id)
	switch {
	case err == api.ErrLife:
		return n.dropped(came, noLife)
	case err != api.OK:
		return n.dropped(came, noWay)
	case !n.put(next, to):
		return n.dropped(came, noRoom)
	}
	return nil
}

// turn sends p, which came up to node 0, down again.
func (n *Node) turn(p api.Packet) []api.Event {
	path := n.paths[p.To]
	if len(path) == 0 {
		return n.dropped(p, noWay)
	}
	q := p
	q.Path, q.Life = path, n.config.Life
	return n.handDown(p, q)
}

// handUp hands p on to whom the node follows when it is sent.
func (n *Node) handUp(p api.Packet) []api.Event {
	next, err := route.Up(p, n.id)
	if err != api.OK {
		return n.dropped(p, noLife)
	}
	if !n.put(next, api.All) {
		return n.dropped(p, noRoom)
	}
	return nil
}

func (n *Node) dropped(p api.Packet, code int) []api.Event {
	return []api.Event{{Kind: api.EDropped, I: n.id, Code: code, Packet: p}}
}

// leave takes the first packet out of the queue.
func (n *Node) leave() []byte {
	n.tries = 0
	b, _ := n.queue.Take(0)
	return b
}

// dropFirst drops the first packet of the queue.
func (n *Node) dropFirst(code int) []api.Event {
	p, _ := route.Decode(n.leave())
	return n.dropped(p, code)
}
