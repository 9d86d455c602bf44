package join

import (
	"campanile/api"
	"campanile/bits"
	"campanile/cell"
	"campanile/seal"
)

const (
	askMark  = 'J'
	giveMark = 'G'

	octet     = 8
	word      = 32
	tagSize   = word / octet
	mostCode  = 255
	mostCells = 8
)

// message is what is read or written: a request, or a grant.
type message interface {
	body() []byte // all but the Tag
}

type asking struct{ api.Request }

type granting struct{ api.Grant }

func (a asking) body() []byte {
	var w bits.Writer
	w.Put(askMark, octet)
	w.Put(uint64(a.Node), octet)
	w.Put(uint64(a.Parent), octet)
	w.Put(uint64(a.Nonce), word)
	w.Put(uint64(a.Count), word)
	return w.Bytes()
}

func (g granting) body() []byte {
	var w bits.Writer
	w.Put(giveMark, octet)
	w.Put(uint64(g.Node), octet)
	w.Put(uint64(g.Code), octet)
	w.Put(uint64(g.Nonce), word)
	w.Put(uint64(len(g.Cells)), octet)
	for _, c := range g.Cells {
		for _, n := range [...]int{c.Frame, c.Slot, c.Chan, c.Opts, c.Peer} {
			w.Put(uint64(n), octet)
		}
	}
	return w.Bytes()
}

// sealed is a message as bytes, with its Tag.
func sealed(key uint64, m message) []byte {
	var w bits.Writer
	body := m.body()
	w.Text(body)
	w.Put(uint64(seal.Tag(key, body)), word)
	return w.Bytes()
}

// isSealed tells whether b, which is a message, ends with its Tag by key.
func isSealed(key uint64, b []byte) bool {
	at := len(b) - tagSize
	return seal.Good(key, b[:at], uint32(bits.NewReader(b[at:]).Take(word)))
}

// read is the message that b is, if it begins with mark.
func read(b []byte, mark uint64) (message, api.Errno) {
	r := bits.NewReader(b)
	first := r.Take(octet)
	if isShort(r) {
		return nil, api.ErrShort
	}
	if first != mark {
		return nil, api.ErrForm
	}
	node := int(r.Take(octet))
	if isShort(r) {
		return nil, api.ErrShort
	}
	if !isNode(node) {
		return nil, api.ErrForm
	}
	if mark == askMark {
		return readAsking(r, node)
	}
	return readGranting(r, node)
}

func readAsking(r *bits.Reader, node int) (message, api.Errno) {
	parent := int(r.Take(octet))
	if isShort(r) {
		return nil, api.ErrShort
	}
	if !isOther(parent, node) {
		return nil, api.ErrForm
	}
	a := asking{api.Request{Node: node, Parent: parent, Nonce: take32(r), Count: take32(r), Tag: take32(r)}}
	if err := r.End(); err != api.OK {
		return nil, err
	}
	return a, api.OK
}

func readGranting(r *bits.Reader, node int) (message, api.Errno) {
	g := granting{api.Grant{Node: node, Code: int(r.Take(octet)), Nonce: take32(r)}}
	n := int(r.Take(octet))
	if isShort(r) {
		return nil, api.ErrShort
	}
	if n > mostCells {
		return nil, api.ErrForm
	}
	for range n {
		c := api.Cell{Frame: take8(r), Slot: take8(r), Chan: take8(r), Opts: take8(r), Peer: take8(r)}
		if isShort(r) {
			return nil, api.ErrShort
		}
		if !cell.May(c) {
			return nil, api.ErrForm
		}
		g.Cells = append(g.Cells, c)
	}
	g.Tag = take32(r)
	if err := r.End(); err != api.OK {
		return nil, err
	}
	return g, api.OK
}

func take8(r *bits.Reader) int { return int(r.Take(octet)) }

func take32(r *bits.Reader) uint32 { return uint32(r.Take(word)) }

// isShort tells whether what was taken was not all there: the bits that are still left are no error yet.
func isShort(r *bits.Reader) bool { return r.End() == api.ErrShort }

func cellsMay(l []api.Cell) bool {
	if len(l) > mostCells {
		return false
	}
	for _, c := range l {
		if !cell.May(c) {
			return false
		}
	}
	return true
}

func isNode(n int) bool { return n >= 0 && n < api.MaxNodes }

func isOther(n, me int) bool { return isNode(n) && n != me }
