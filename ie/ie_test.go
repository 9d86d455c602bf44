package ie_test

import (
	"bytes"
	"encoding/hex"
	"math/rand"
	"slices"
	"strings"
	"testing"

	"campanile/api"
	"campanile/ie"
)

func unhex(t *testing.T, s string) []byte {
	t.Helper()
	b, err := hex.DecodeString(strings.ReplaceAll(s, " ", ""))
	if err != nil {
		t.Fatal(err)
	}
	return b
}

func list(n, each int) []int { return slices.Repeat([]int{each}, n) }

func same(a, b []api.IE) bool { return slices.EqualFunc(a, b, ie.Same) }

// P6.1: what may be.
func TestMay(t *testing.T) {
	for i, e := range []api.IE{
		{Kind: api.ISync}, {Kind: api.ISync, ASN: api.MaxASN - 1, Rank: 255}, {Kind: api.ISync, List: []int{}},
		{Kind: api.ICorrect}, {Kind: api.ICorrect, Ticks: 32767}, {Kind: api.ICorrect, Ticks: -32768},
		{Kind: api.IHops}, {Kind: api.IHops, List: list(16, 255)}, {Kind: api.IRoute, List: []int{}}, {Kind: api.IRoute, List: list(16, 0)},
	} {
		if !ie.May(e) {
			t.Errorf("%d: %+v may be", i, e)
		}
	}
	for i, e := range bad() {
		if ie.May(e) {
			t.Errorf("%d: %+v may not be", i, e)
		}
	}
}

func bad() []api.IE {
	return []api.IE{
		{}, {Kind: 5}, {Kind: -1}, {Kind: 1<<63 - 1},
		{Kind: api.ISync, ASN: -1}, {Kind: api.ISync, ASN: api.MaxASN}, {Kind: api.ISync, Rank: -1}, {Kind: api.ISync, Rank: 256}, {Kind: api.ISync, Ticks: 1}, {Kind: api.ISync, List: []int{0}},
		{Kind: api.ICorrect, Ticks: 32768}, {Kind: api.ICorrect, Ticks: -32769}, {Kind: api.ICorrect, ASN: 1}, {Kind: api.ICorrect, Rank: 1}, {Kind: api.ICorrect, List: []int{0}},
		{Kind: api.IHops, List: list(17, 1)}, {Kind: api.IHops, List: []int{256}}, {Kind: api.IHops, List: []int{1, -1}}, {Kind: api.IHops, ASN: 1}, {Kind: api.IHops, Rank: 1}, {Kind: api.IHops, Ticks: 1},
		{Kind: api.IRoute, List: list(17, 1)}, {Kind: api.IRoute, List: []int{256}}, {Kind: api.IRoute, List: []int{-1}}, {Kind: api.IRoute, ASN: 1}, {Kind: api.IRoute, Rank: 1}, {Kind: api.IRoute, Ticks: 1},
	}
}

// P6.1: alike in all.
func TestSame(t *testing.T) {
	a := api.IE{Kind: 3, ASN: 1, Rank: 2, Ticks: 3, List: []int{4, 5}}
	if !ie.Same(a, api.IE{Kind: 3, ASN: 1, Rank: 2, Ticks: 3, List: []int{4, 5}}) || !ie.Same(api.IE{List: []int{}}, api.IE{}) {
		t.Error("not the same")
	}
	for i, b := range []api.IE{
		{Kind: 4, ASN: 1, Rank: 2, Ticks: 3, List: []int{4, 5}}, {Kind: 3, ASN: 2, Rank: 2, Ticks: 3, List: []int{4, 5}}, {Kind: 3, ASN: 1, Rank: 1, Ticks: 3, List: []int{4, 5}}, {Kind: 3, ASN: 1, Rank: 2, Ticks: 4, List: []int{4, 5}},
		{Kind: 3, ASN: 1, Rank: 2, Ticks: 3, List: []int{4}}, {Kind: 3, ASN: 1, Rank: 2, Ticks: 3, List: []int{5, 4}}, {Kind: 3, ASN: 1, Rank: 2, Ticks: 3},
	} {
		if ie.Same(a, b) || ie.Same(b, a) {
			t.Error(i)
		}
	}
}

// P6.2, and 'The bytes': elements and their bytes, both ways.
func TestBytes(t *testing.T) {
	for _, x := range []struct {
		l []api.IE
		s string
	}{
		{nil, "00"},
		{[]api.IE{{Kind: api.ICorrect, Ticks: -2}}, "01 02 02 fffe"},
		{[]api.IE{{Kind: api.ICorrect, Ticks: 32767}, {Kind: api.ICorrect, Ticks: -32768}}, "02 02 02 7fff 02 02 8000"},
		{[]api.IE{{Kind: api.ISync, ASN: 0x0102030405, Rank: 6}}, "01 01 06 0102030405 06"},
		{[]api.IE{{Kind: api.ISync, ASN: api.MaxASN - 1, Rank: 255}}, "01 01 06 ffffffffff ff"},
		{[]api.IE{{Kind: api.IHops, List: []int{11, 255, 0}}, {Kind: api.IRoute}}, "02 03 03 0bff00 04 00"},
		{[]api.IE{{Kind: api.IRoute, List: list(16, 7)}}, "01 04 10" + strings.Repeat("07", 16)},
		{[]api.IE{{Kind: api.IHops}, {Kind: api.IHops}, {Kind: api.ISync, ASN: 1}, {Kind: api.ICorrect, Ticks: 1}}, "04 03 00 03 00 01 06 0000000001 00 02 02 0001"},
	} {
		want := unhex(t, x.s)
		if b, err := ie.Encode(x.l); err != api.OK || !bytes.Equal(b, want) {
			t.Errorf("%s: %x %d", x.s, b, err)
		}
		if l, err := ie.Decode(want); err != api.OK || !same(l, x.l) {
			t.Errorf("%s: %+v %d", x.s, l, err)
		}
	}
}

// P6.2: what is not encoded.
func TestEncodeArg(t *testing.T) {
	ok := api.IE{Kind: api.IHops, List: []int{1}}
	if b, err := ie.Encode([]api.IE{ok, ok, ok, ok, ok}); err != api.ErrArg || len(b) != 0 {
		t.Error(b, err)
	}
	for i, e := range bad() {
		if b, err := ie.Encode([]api.IE{ok, e}); err != api.ErrArg || len(b) != 0 {
			t.Error(i, b, err)
		}
	}
}

// P6.2: errors as they are met.
func TestDecodeErrors(t *testing.T) {
	for s, want := range map[string]api.Errno{
		"": api.ErrShort, "05": api.ErrForm, "ff": api.ErrForm, "00 00": api.ErrForm, "01": api.ErrShort, "01 00": api.ErrForm, "01 05": api.ErrForm, "01 ff": api.ErrForm,
		"01 01": api.ErrShort, "01 01 05": api.ErrForm, "01 01 07": api.ErrForm, "01 01 06": api.ErrShort, "01 01 06 0102030405": api.ErrShort, "01 01 06 0102030405 06 00": api.ErrForm,
		"01 02": api.ErrShort, "01 02 01": api.ErrForm, "01 02 03": api.ErrForm, "01 02 02": api.ErrShort, "01 02 02 01": api.ErrShort,
		"01 03": api.ErrShort, "01 03 11": api.ErrForm, "01 03 10": api.ErrShort, "01 03 02 01": api.ErrShort, "01 04 11": api.ErrForm, "01 04 01": api.ErrShort, "01 04 00 00": api.ErrForm,
		"02 04 00": api.ErrShort, "02 04 00 09": api.ErrForm, "02 04 00 02": api.ErrShort, "02 02 01 00": api.ErrForm, "02 09": api.ErrForm,
		"05 09": api.ErrForm,
	} {
		if l, err := ie.Decode(unhex(t, s)); err != want || len(l) != 0 {
			t.Errorf("%s: %v %d, not %d", s, l, err, want)
		}
	}
}

// P6.2: the first of a kind, in memory of its own.
func TestFind(t *testing.T) {
	l := []api.IE{{Kind: api.IHops, List: []int{1, 2}}, {Kind: api.ISync, ASN: 3}, {Kind: api.IHops, List: []int{4}}}
	e, ok := ie.Find(l, api.IHops)
	if !ok || !ie.Same(e, l[0]) {
		t.Error(e, ok)
	}
	e.List[0] = 9
	if l[0].List[0] != 1 {
		t.Error("one memory")
	}
	if e, ok := ie.Find(l, api.ISync); !ok || !ie.Same(e, l[1]) {
		t.Error(e, ok)
	}
	if e, ok := ie.Find(l, api.IRoute); ok || !ie.Same(e, api.IE{}) {
		t.Error(e, ok)
	}
	if _, ok := ie.Find(nil, api.IRoute); ok {
		t.Error("found in nothing")
	}
}

// R2: what is handed in stays as it is; nothing is shared.
func TestMemory(t *testing.T) {
	l := []api.IE{{Kind: api.IHops, List: []int{1, 2, 3}[:2]}, {Kind: api.IRoute, List: []int{5}}}
	b, _ := ie.Encode(l)
	got, _ := ie.Decode(b)
	for i := range got {
		got[i].List = append(got[i].List, 77)
		got[i].List[0] = 88
	}
	again, _ := ie.Decode(b)
	if !same(l, again) || !slices.Equal(got[0].List, []int{88, 2, 77}) || !slices.Equal(got[1].List, []int{88, 77}) {
		t.Error(l, got, again)
	}
}

func some(rnd *rand.Rand) api.IE {
	l := make([]int, rnd.Intn(17))
	for i := range l {
		l[i] = rnd.Intn(256)
	}
	switch rnd.Intn(4) {
	case 0:
		return api.IE{Kind: api.ISync, ASN: rnd.Int63n(api.MaxASN), Rank: rnd.Intn(256)}
	case 1:
		return api.IE{Kind: api.ICorrect, Ticks: rnd.Intn(1<<16) - 1<<15}
	case 2:
		return api.IE{Kind: api.IHops, List: l}
	}
	return api.IE{Kind: api.IRoute, List: l}
}

// P6.3: both ways round; no bytes harm.
func TestRound(t *testing.T) {
	rnd := rand.New(rand.NewSource(6))
	for range 2000 {
		var l []api.IE
		for range rnd.Intn(5) {
			l = append(l, some(rnd))
		}
		b, err := ie.Encode(l)
		got, err2 := ie.Decode(b)
		if err != api.OK || err2 != api.OK || !same(got, l) {
			t.Fatalf("%v %v %d %d", l, got, err, err2)
		}
		b[rnd.Intn(len(b))] = byte(rnd.Intn(20))
		b = b[:rnd.Intn(len(b)+1)]
		if got, err := ie.Decode(b); err == api.OK {
			if again, _ := ie.Encode(got); !bytes.Equal(again, b) {
				t.Fatalf("%x %x", b, again)
			}
		} else if len(got) != 0 || err != api.ErrShort && err != api.ErrForm {
			t.Fatalf("%x %v %d", b, got, err)
		}
	}
}
