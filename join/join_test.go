package join_test

import (
	"bytes"
	"encoding/hex"
	"math/rand"
	"reflect"
	"slices"
	"strings"
	"testing"

	"campanile/api"
	"campanile/join"
	"campanile/seal"
)

const (
	key   = 0x0123456789abcdef
	big   = 1<<63 - 1
	small = -1 << 63
)

var one = api.Cell{Frame: 1, Slot: 199, Chan: 15, Opts: api.OTx | api.OShared, Peer: api.All}

func unhex(t *testing.T, s string) []byte {
	t.Helper()
	b, err := hex.DecodeString(strings.ReplaceAll(s, " ", ""))
	if err != nil {
		t.Fatal(err)
	}
	return b
}

// tagged is b with its tag by a key behind it.
func tagged(key uint64, b []byte) []byte {
	n := seal.Tag(key, b)
	return append(bytes.Clone(b), byte(n>>24), byte(n>>16), byte(n>>8), byte(n))
}

func sameGrant(a, b api.Grant) bool {
	cells := slices.Equal(a.Cells, b.Cells)
	a.Cells, b.Cells = nil, nil
	return cells && reflect.DeepEqual(a, b)
}

func ask(t *testing.T, key uint64, r api.Request) []byte {
	t.Helper()
	b, err := join.Ask(key, r)
	if err != api.OK {
		t.Fatal(err)
	}
	return b
}

// P18.1, 'The bytes': requests.
func TestAsk(t *testing.T) {
	r := api.Request{Node: 15, Parent: 0, Nonce: 0xfedcba98, Count: 0x01020304, Tag: 5}
	want := tagged(key, unhex(t, "4a 0f 00 fedcba98 01020304"))
	b := ask(t, key, r)
	if !bytes.Equal(b, want) || len(b) != 15 {
		t.Errorf("%x", b)
	}
	r.Tag = seal.Tag(key, b[:11])
	if got, err := join.Asked(b); err != api.OK || got != r {
		t.Error(got, err)
	}
	b[14]++
	r.Tag = r.Tag&^255 | uint32(b[14])
	if got, err := join.Asked(b); err != api.OK || got != r {
		t.Error(got, err)
	}
	for _, r := range []api.Request{{Node: 16, Parent: 1}, {Node: -1, Parent: 1}, {Node: 1, Parent: 1}, {Node: 1, Parent: 16}, {Node: 1, Parent: -1}, {Node: 1, Parent: api.All}, {Node: api.All, Parent: 1}, {Node: big, Parent: small}} {
		if b, err := join.Ask(key, r); err != api.ErrArg || len(b) != 0 {
			t.Error(r, b, err)
		}
	}
}

// P18.1: what is no request.
func TestAskedErrors(t *testing.T) {
	for s, want := range map[string]api.Errno{
		"": api.ErrShort, "4a": api.ErrShort, "47": api.ErrForm, "00": api.ErrForm, "6a": api.ErrForm, "4a10": api.ErrForm, "4a40": api.ErrForm, "4a01": api.ErrShort, "4a0110": api.ErrForm, "4a0101": api.ErrForm, "4a0140": api.ErrForm, "4a0102": api.ErrShort, "4a00": api.ErrShort, "4a0000": api.ErrForm, "4a0001": api.ErrShort,
		"4a0102 00000000 00000001": api.ErrShort, "4a0102 00000000 00000001 000000": api.ErrShort, "4a0102 00000000 00000001 00000000 00": api.ErrForm, "4a1001 00000000 00000001 00000000": api.ErrForm, "470102 00000000 00000001 00000000": api.ErrForm,
	} {
		if r, err := join.Asked(unhex(t, s)); err != want || r != (api.Request{}) {
			t.Errorf("%s: %v %d, not %d", s, r, err, want)
		}
	}
}

// P18.1, 'The bytes': grants.
func TestGive(t *testing.T) {
	for _, x := range []struct {
		g api.Grant
		s string
	}{
		{api.Grant{Node: 0, Code: 255, Nonce: 7, Tag: 9}, "47 00 ff 00000007 00"},
		{api.Grant{Node: 15, Nonce: 0xfedcba98, Cells: []api.Cell{one, {Opts: 2}}}, "47 0f 00 fedcba98 02 01c70f0540 0000000200"},
		{api.Grant{Node: 1, Code: 1, Cells: slices.Repeat([]api.Cell{{Opts: 2}}, 8)}, "47 01 01 00000000 08" + strings.Repeat("0000000200", 8)},
	} {
		want := tagged(key, unhex(t, x.s))
		b, err := join.Give(key, x.g)
		if err != api.OK || !bytes.Equal(b, want) {
			t.Errorf("%s: %x %d", x.s, b, err)
		}
		x.g.Tag = seal.Tag(key, unhex(t, x.s))
		if g, err := join.Given(want); err != api.OK || !sameGrant(g, x.g) {
			t.Errorf("%s: %v %d", x.s, g, err)
		}
		want[len(want)-1] ^= 1
		x.g.Tag ^= 1
		if g, err := join.Given(want); err != api.OK || !sameGrant(g, x.g) {
			t.Errorf("%s: %v %d", x.s, g, err)
		}
	}
	for _, g := range []api.Grant{{Node: 16}, {Node: -1}, {Node: api.All}, {Code: 256}, {Code: -1}, {Cells: slices.Repeat([]api.Cell{one}, 9)}, {Cells: []api.Cell{one, {Opts: 4}}}, {Cells: []api.Cell{{Opts: 1, Peer: 16}}}} {
		if b, err := join.Give(key, g); err != api.ErrArg || len(b) != 0 {
			t.Error(g, b, err)
		}
	}
}

// P18.1: what is no grant.
func TestGivenErrors(t *testing.T) {
	for s, want := range map[string]api.Errno{
		"": api.ErrShort, "4a": api.ErrForm, "47": api.ErrShort, "4710": api.ErrForm, "4740": api.ErrForm, "4701": api.ErrShort, "470100": api.ErrShort, "470100 000000": api.ErrShort, "470100 00000000": api.ErrShort,
		"470100 00000000 09": api.ErrForm, "470100 00000000 ff": api.ErrForm, "470100 00000000 08": api.ErrShort, "470100 00000000 01 00000002": api.ErrShort, "470100 00000000 01 0400000200": api.ErrForm, "470100 00000000 01 0000000400": api.ErrForm, "470100 00000000 01 04000002": api.ErrShort,
		"470100 00000000 02 0400000200": api.ErrForm, "470100 00000000 01 0000000200": api.ErrShort, "470100 00000000 01 0000000200 000000": api.ErrShort, "470100 00000000 01 0000000200 00000000 00": api.ErrForm, "470100 00000000 00": api.ErrShort, "470100 00000000 00 00000000 00": api.ErrForm,
		"471000 00000000 00 00000000": api.ErrForm,
	} {
		if g, err := join.Given(unhex(t, s)); err != want || !sameGrant(g, api.Grant{}) {
			t.Errorf("%s: %v %d, not %d", s, g, err, want)
		}
	}
}

// P18.2: what a desk takes.
func TestDesk(t *testing.T) {
	keys := []uint64{5, key, 7}
	d := join.NewDesk(keys)
	keys[1] = 0
	for node, known := range map[int]bool{-1: false, 0: true, 2: true, 3: false, 16: false, big: false, small: false} {
		if n, ok := d.Count(node); n != 0 || ok != known {
			t.Error(node, n, ok)
		}
	}
	cells := []api.Cell{one, {Opts: 2}}
	refuse := func(b []byte, want api.Errno) {
		t.Helper()
		was, _ := d.Count(1)
		if g, err := d.Take(b, cells); err != want || !sameGrant(g, api.Grant{}) {
			t.Error(g, err)
		}
		if n, ok := d.Count(1); n != was || !ok {
			t.Error(n, ok)
		}
	}
	request := api.Request{Node: 1, Parent: 0, Nonce: 77, Count: 1}
	b := ask(t, key, request)
	refuse(nil, api.ErrShort)
	refuse([]byte("G"), api.ErrForm)
	refuse(append(bytes.Clone(b), 0), api.ErrForm)
	refuse(ask(t, key, api.Request{Node: 3, Parent: 0, Count: 1}), api.ErrNone)
	refuse(ask(t, 5, request), api.ErrSeal)
	refuse(ask(t, 5, api.Request{Node: 1, Parent: 0}), api.ErrSeal)
	refuse(ask(t, key, api.Request{Node: 1, Parent: 0}), api.ErrOld)
	g, err := d.Take(b, cells)
	want := api.Grant{Node: 1, Nonce: 77, Cells: cells, Tag: seal.Tag(key, unhex(t, "470100 0000004d 02 01c70f0540 0000000200"))}
	if err != api.OK || !sameGrant(g, want) {
		t.Error(g, err)
	}
	g.Cells[0].Slot = 0
	if cells[0] != one {
		t.Error("one memory")
	}
	if n, ok := d.Count(1); n != 1 || !ok {
		t.Error(n, ok)
	}
	refuse(b, api.ErrOld)
	request.Count = 1<<32 - 1
	request.Nonce = 78
	for _, bad := range [][]api.Cell{slices.Repeat([]api.Cell{one}, 9), {one, {Opts: 8}}} {
		desk := join.NewDesk([]uint64{5, key})
		g, err := desk.Take(ask(t, key, request), bad)
		want := api.Grant{Node: 1, Code: 1, Nonce: 78, Tag: seal.Tag(key, unhex(t, "470101 0000004e 00"))}
		if err != api.OK || !sameGrant(g, want) {
			t.Error(g, err)
		}
	}
	g, err = d.Take(ask(t, key, request), nil)
	if err != api.OK || !sameGrant(g, api.Grant{Node: 1, Nonce: 78, Tag: seal.Tag(key, unhex(t, "470100 0000004e 00"))}) {
		t.Error(g, err)
	}
	if n, _ := d.Count(1); n != 1<<32-1 {
		t.Error(n)
	}
	for _, count := range []uint32{1<<32 - 1, 1<<32 - 2, 0, 5} {
		request.Count = count
		refuse(ask(t, key, request), api.ErrOld)
	}
	if n, ok := d.Count(2); n != 0 || !ok {
		t.Error(n, ok)
	}
	full := join.NewDesk(make([]uint64, 20))
	if _, ok := full.Count(15); !ok {
		t.Error("too few")
	}
	if _, ok := full.Count(16); ok {
		t.Error("too many")
	}
	empty := join.NewDesk(nil)
	if g, err := empty.Take(b, nil); err != api.ErrNone || !sameGrant(g, api.Grant{}) {
		t.Error(g, err)
	}
}

// P18.3: what a seeker asks, and what it waits for.
func TestSeeker(t *testing.T) {
	for _, node := range []int{-1, 16, api.All, big, small} {
		if join.NewSeeker(node, key) != nil {
			t.Error(node)
		}
	}
	s := join.NewSeeker(2, key)
	give := func(key uint64, g api.Grant) []byte {
		b, err := join.Give(key, g)
		if err != api.OK {
			t.Fatal(err)
		}
		return b
	}
	right := api.Grant{Node: 2, Code: 3, Nonce: 9, Cells: []api.Cell{one}}
	refuse := func(b []byte, want api.Errno, waits bool) {
		t.Helper()
		if g, err := s.Done(b); err != want || !sameGrant(g, api.Grant{}) || s.Waits() != waits {
			t.Error(g, err, s.Waits())
		}
	}
	refuse(give(key, right), api.ErrState, false)
	refuse(nil, api.ErrState, false)
	for _, parent := range []int{2, -1, 16, api.All, big, small} {
		if b, err := s.Ask(parent, 9); err != api.ErrArg || len(b) != 0 || s.Waits() {
			t.Error(parent, b, err)
		}
	}
	for i, nonce := range []uint32{5, 1<<32 - 1, 9} {
		b, err := s.Ask(i+3, nonce)
		if want := ask(t, key, api.Request{Node: 2, Parent: i + 3, Nonce: nonce, Count: uint32(i + 1)}); err != api.OK || !bytes.Equal(b, want) || !s.Waits() {
			t.Errorf("%x %d", b, err)
		}
	}
	refuse(nil, api.ErrShort, true)
	refuse([]byte("J"), api.ErrForm, true)
	refuse(append(give(key, right), 0), api.ErrForm, true)
	other, old := right, right
	other.Node, old.Nonce = 3, 5
	refuse(give(5, other), api.ErrNone, true)
	refuse(give(5, old), api.ErrSeal, true)
	refuse(give(key, old), api.ErrOld, true)
	b := give(key, right)
	right.Tag = seal.Tag(key, b[:len(b)-4])
	g, err := s.Done(b)
	if err != api.OK || !sameGrant(g, right) || s.Waits() {
		t.Error(g, err, s.Waits())
	}
	refuse(b, api.ErrState, false)
	if b, err := s.Ask(0, 9); err != api.OK || !bytes.Equal(b, ask(t, key, api.Request{Node: 2, Parent: 0, Nonce: 9, Count: 4})) {
		t.Error(b, err)
	}
}

// P18.2, P18.3: nil ones.
func TestNil(t *testing.T) {
	var d *join.Desk
	if g, err := d.Take(nil, nil); err != api.ErrArg || !sameGrant(g, api.Grant{}) {
		t.Error(g, err)
	}
	if n, ok := d.Count(0); n != 0 || ok {
		t.Error(n, ok)
	}
	var s *join.Seeker
	if b, err := s.Ask(1, 1); err != api.ErrArg || len(b) != 0 {
		t.Error(b, err)
	}
	if g, err := s.Done(nil); err != api.ErrArg || !sameGrant(g, api.Grant{}) || s.Waits() {
		t.Error(g, err)
	}
}

// P18.4: taken once; for who asked, with the nonce asked with last; with a byte changed, not at all.
func TestOnce(t *testing.T) {
	rnd := rand.New(rand.NewSource(18))
	keys := []uint64{rnd.Uint64(), rnd.Uint64(), rnd.Uint64()}
	d := join.NewDesk(keys)
	seekers := []*join.Seeker{join.NewSeeker(0, keys[0]), join.NewSeeker(1, keys[1]), join.NewSeeker(2, keys[2])}
	for range 200 {
		node := rnd.Intn(3)
		nonce := rnd.Uint32()
		b, _ := seekers[node].Ask((node+1)%3, nonce)
		bad := bytes.Clone(b)
		bad[rnd.Intn(len(bad))] ^= byte(1 + rnd.Intn(255))
		if _, err := d.Take(bad, nil); err == api.OK {
			t.Fatalf("%x was taken", bad)
		}
		g, err := d.Take(b, []api.Cell{one})
		if err != api.OK || g.Node != node || g.Nonce != nonce {
			t.Fatal(g, err)
		}
		if _, err := d.Take(b, nil); err != api.ErrOld {
			t.Fatal(err)
		}
		back, _ := join.Give(keys[node], g)
		for i, s := range seekers {
			if i != node {
				if _, err := s.Done(back); err == api.OK {
					t.Fatal("taken by another one")
				}
			}
		}
		bad = bytes.Clone(back)
		bad[rnd.Intn(len(bad))] ^= byte(1 + rnd.Intn(255))
		if _, err := seekers[node].Done(bad); err == api.OK {
			t.Fatalf("%x was taken", bad)
		}
		if rnd.Intn(3) == 0 {
			continue
		}
		if got, err := seekers[node].Done(back); err != api.OK || !sameGrant(got, g) {
			t.Fatal(got, err)
		}
	}
}
