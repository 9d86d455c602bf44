package route_test

import (
	"bytes"
	"encoding/hex"
	"math/rand"
	"slices"
	"strings"
	"testing"

	"campanile/api"
	"campanile/route"
)

const (
	big   = 1<<63 - 1
	small = -1 << 63
)

func unhex(t *testing.T, s string) []byte {
	t.Helper()
	b, err := hex.DecodeString(strings.ReplaceAll(s, " ", ""))
	if err != nil {
		t.Fatal(err)
	}
	return b
}

func upTo(n int) []int {
	var l []int
	for i := range n {
		l = append(l, i)
	}
	return l
}

func plain() api.Packet {
	return api.Packet{From: 1, To: 2, N: 3, Life: 4, Path: []int{5, 6}, Data: []byte{7}}
}

type change func(*api.Packet)

func good() []change {
	return []change{
		func(p *api.Packet) {}, func(p *api.Packet) { p.From = 0 }, func(p *api.Packet) { p.From, p.To = 15, 0 }, func(p *api.Packet) { p.To = 15 }, func(p *api.Packet) { p.N = 0 }, func(p *api.Packet) { p.N = 1<<46 - 1 }, func(p *api.Packet) { p.Life = 0 }, func(p *api.Packet) { p.Life = 15 },
		func(p *api.Packet) { p.Path = nil }, func(p *api.Packet) { p.Path = upTo(16) }, func(p *api.Packet) { p.Data = make([]byte, 24) },
	}
}

func bad() []change {
	return []change{
		func(p *api.Packet) { p.From = -1 }, func(p *api.Packet) { p.From = 16 }, func(p *api.Packet) { p.To = -1 }, func(p *api.Packet) { p.To = 16 }, func(p *api.Packet) { p.To = api.All }, func(p *api.Packet) { p.To = 1 }, func(p *api.Packet) { p.N = -1 }, func(p *api.Packet) { p.N = 1 << 46 }, func(p *api.Packet) { p.N = big },
		func(p *api.Packet) { p.Life = -1 }, func(p *api.Packet) { p.Life = 16 }, func(p *api.Packet) { p.Path = []int{5, 5} }, func(p *api.Packet) { p.Path = []int{5, 16} }, func(p *api.Packet) { p.Path = []int{-1} }, func(p *api.Packet) { p.Path = []int{big, small} }, func(p *api.Packet) { p.Path = append(upTo(16), 16) }, func(p *api.Packet) { p.Path = append(upTo(16), 0) },
		func(p *api.Packet) { p.Data = nil }, func(p *api.Packet) { p.Data = []byte{} }, func(p *api.Packet) { p.Data = make([]byte, 25) },
	}
}

// P19.1: what may be; what may not is neither encoded nor handed on.
func TestMay(t *testing.T) {
	for i, f := range good() {
		p := plain()
		if f(&p); !route.May(p) {
			t.Errorf("%d: %+v may be", i, p)
		}
		b, err := route.Encode(p)
		got, err2 := route.Decode(b)
		if err != api.OK || err2 != api.OK || !route.Same(got, p) {
			t.Errorf("%d: %+v %d %d", i, got, err, err2)
		}
	}
	for i, f := range bad() {
		p := plain()
		if f(&p); route.May(p) {
			t.Errorf("%d: %+v may not be", i, p)
		}
		if b, err := route.Encode(p); err != api.ErrArg || len(b) != 0 {
			t.Error(i, b, err)
		}
		if got, err := route.Up(p, 5); err != api.ErrArg || !route.Same(got, api.Packet{}) {
			t.Error(i, got, err)
		}
		if got, to, err := route.Down(p, 5); err != api.ErrArg || to != 0 || !route.Same(got, api.Packet{}) {
			t.Error(i, got, to, err)
		}
	}
}

// P19.1: alike in all.
func TestSame(t *testing.T) {
	a := plain()
	for i, f := range []change{func(p *api.Packet) { p.From = 9 }, func(p *api.Packet) { p.To = 9 }, func(p *api.Packet) { p.N = 9 }, func(p *api.Packet) { p.Life = 9 }, func(p *api.Packet) { p.Path = []int{6, 5} }, func(p *api.Packet) { p.Path = []int{5} }, func(p *api.Packet) { p.Data = []byte{8} }, func(p *api.Packet) { p.Data = []byte{7, 0} }} {
		b := plain()
		if f(&b); route.Same(a, b) || route.Same(b, a) {
			t.Error(i)
		}
	}
	if !route.Same(a, plain()) || !route.Same(api.Packet{Path: []int{}, Data: []byte{}}, api.Packet{}) {
		t.Error("not the same")
	}
}

// P19.1: known bytes.
func TestBytes(t *testing.T) {
	for _, x := range []struct {
		p api.Packet
		s string
	}{
		{plain(), "01 02 000000000003 04 02 05 06 01 07"},
		{api.Packet{From: 15, To: 0, N: 0x3f0102030405, Life: 15, Data: []byte("ab")}, "0f 00 3f0102030405 0f 00 02 6162"},
	} {
		want := unhex(t, x.s)
		if b, err := route.Encode(x.p); err != api.OK || !bytes.Equal(b, want) {
			t.Errorf("%x %d", b, err)
		}
		if p, err := route.Decode(want); err != api.OK || !route.Same(p, x.p) {
			t.Errorf("%+v %d", p, err)
		}
		for n := range want {
			if p, err := route.Decode(want[:n]); err != api.ErrShort || !route.Same(p, api.Packet{}) {
				t.Errorf("%d: %+v %d", n, p, err)
			}
		}
		if p, err := route.Decode(append(want, 0)); err != api.ErrForm || !route.Same(p, api.Packet{}) {
			t.Errorf("%+v %d", p, err)
		}
	}
}

// P19.1: errors as they are met.
func TestDecodeErrors(t *testing.T) {
	for s, want := range map[string]api.Errno{
		"01 02 000000000003 04 11": api.ErrForm, "01 02 000000000003 04 ff": api.ErrForm, "01 02 000000000003 04 10": api.ErrShort, "01 02 000000000003 04 10 05 05": api.ErrShort,
		"01 02 000000000003 04 00 00": api.ErrForm, "01 02 000000000003 04 00 19": api.ErrForm, "01 02 000000000003 04 00 18": api.ErrShort, "01 02 000000000003 04 00 00 00": api.ErrForm, "01 02 000000000003 04 00 19" + strings.Repeat("00", 25): api.ErrForm,
		"01 01 000000000003 04 00 01 00": api.ErrForm, "10 01 000000000003 04 00 01 00": api.ErrForm, "01 10 000000000003 04 00 01 00": api.ErrForm, "01 02 400000000000 04 00 01 00": api.ErrForm, "01 02 000000000003 10 00 01 00": api.ErrForm,
		"01 02 000000000003 04 02 05 05 01 00": api.ErrForm, "01 02 000000000003 04 01 10 01 00": api.ErrForm,
	} {
		if p, err := route.Decode(unhex(t, s)); err != want || !route.Same(p, api.Packet{}) {
			t.Errorf("%s: %+v %d, not %d", s, p, err, want)
		}
	}
}

// P19.2: on its way up.
func TestUp(t *testing.T) {
	p := plain()
	p.Path = []int{5, 6, 9, 9}[:2]
	for _, me := range []int{-1, 16, api.All, big, small} {
		if got, err := route.Up(p, me); err != api.ErrArg || !route.Same(got, api.Packet{}) {
			t.Error(me, got, err)
		}
	}
	want := plain()
	want.Life, want.Path = 3, []int{5, 6, 8}
	got, err := route.Up(p, 8)
	if err != api.OK || !route.Same(got, want) || p.Path[:3][2] != 9 {
		t.Error(got, err)
	}
	got.Path[0], got.Data[0] = 0, 0
	if !route.Same(p, plain()) {
		t.Error("one memory")
	}
	want.Path = []int{5, 6}
	if got, err := route.Up(p, 5); err != api.OK || !route.Same(got, want) {
		t.Error(got, err)
	}
	p.Path = upTo(16)
	if got, err := route.Up(p, 15); err != api.OK || got.Life != 3 || !slices.Equal(got.Path, upTo(16)) {
		t.Error(got, err)
	}
	p.Path = upTo(15)
	if got, err := route.Up(p, 15); err != api.OK || !slices.Equal(got.Path, upTo(16)) {
		t.Error(got, err)
	}
	p.Life = 0
	if got, err := route.Up(p, 5); err != api.ErrLife || !route.Same(got, api.Packet{}) {
		t.Error(got, err)
	}
	if _, err := route.Up(p, 16); err != api.ErrArg {
		t.Error(err)
	}
	p.Life = 1
	if got, err := route.Up(p, 5); err != api.OK || got.Life != 0 {
		t.Error(got, err)
	}
}

// P19.2: on its way down.
func TestDown(t *testing.T) {
	p := plain()
	p.Path = []int{0, 5, 2}
	want := p
	want.Life = 3
	for me, next := range map[int]int{0: 5, 5: 2} {
		got, to, err := route.Down(p, me)
		if err != api.OK || to != next || !route.Same(got, want) {
			t.Error(me, got, to, err)
		}
		got.Path[0], got.Data[0] = 9, 9
		if p.Path[0] != 0 || p.Data[0] != 7 {
			t.Error("one memory")
		}
	}
	for me, e := range map[int]api.Errno{2: api.ErrNone, 7: api.ErrNone, -1: api.ErrArg, 16: api.ErrArg, api.All: api.ErrArg, big: api.ErrArg, small: api.ErrArg} {
		if got, to, err := route.Down(p, me); err != e || to != 0 || !route.Same(got, api.Packet{}) {
			t.Error(me, got, to, err)
		}
	}
	p.Life = 0
	for me, e := range map[int]api.Errno{0: api.ErrLife, 2: api.ErrLife, 7: api.ErrLife, 16: api.ErrArg} {
		if got, to, err := route.Down(p, me); err != e || to != 0 || !route.Same(got, api.Packet{}) {
			t.Error(me, got, to, err)
		}
	}
	p.Life, p.Path = 1, nil
	if _, to, err := route.Down(p, 0); err != api.ErrNone || to != 0 {
		t.Error(to, err)
	}
}

// P19.3: the other way.
func TestBack(t *testing.T) {
	all := upTo(16)
	slices.Reverse(all)
	for i, x := range [][2][]int{{{3, 2, 0}, {0, 2, 3}}, {{5}, {5}}, {{15, 0}, {0, 15}}, {nil, nil}, {{}, nil}, {{1, 1}, nil}, {{1, 2, 1}, nil}, {{16}, nil}, {{-1, 2}, nil}, {{api.All}, nil}, {{big, small}, nil}, {upTo(16), all}, {append(upTo(16), 3), nil}, {upTo(17), nil}} {
		was := slices.Clone(x[0])
		got := route.Back(x[0])
		if !slices.Equal(got, x[1]) {
			t.Error(i, got)
		}
		for j := range got {
			got[j] = -1
		}
		if !slices.Equal(was, x[0]) {
			t.Error(i, "changed")
		}
	}
}

// P19.4: each hop takes one of Life; down a path it comes to its end.
func TestHops(t *testing.T) {
	rnd := rand.New(rand.NewSource(19))
	for range 300 {
		path := rnd.Perm(16)[:2+rnd.Intn(15)]
		life := len(path) - 1
		p := api.Packet{From: path[0], To: path[len(path)-1], Life: min(life, 15), Path: path, Data: []byte{1}}
		at := path[0]
		for hop := 0; at != path[len(path)-1]; hop++ {
			next, to, err := route.Down(p, at)
			if err != api.OK || next.Life != p.Life-1 || to != path[hop+1] {
				t.Fatal(path, at, to, err)
			}
			p, at = next, to
		}
		if p.Life != 0 {
			t.Fatal(p.Life)
		}
	}
	for range 20000 {
		b := make([]byte, rnd.Intn(16))
		for i := range b {
			b[i] = byte(rnd.Intn(4))
		}
		if p, err := route.Decode(b); err == api.OK {
			if again, _ := route.Encode(p); !bytes.Equal(b, again) {
				t.Fatalf("%x %x", b, again)
			}
		} else if !route.Same(p, api.Packet{}) || err != api.ErrShort && err != api.ErrForm {
			t.Fatal(p, err)
		}
	}
}
