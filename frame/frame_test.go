package frame_test

import (
	"bytes"
	"encoding/hex"
	"math/rand"
	"slices"
	"strings"
	"testing"

	"campanile/api"
	"campanile/crc"
	"campanile/frame"
)

var beat = api.IE{Kind: api.ISync, ASN: 258, Rank: 3}

func unhex(t *testing.T, s string) []byte {
	t.Helper()
	b, err := hex.DecodeString(strings.ReplaceAll(s, " ", ""))
	if err != nil {
		t.Fatal(err)
	}
	return b
}

func ies(l ...api.IE) []api.IE { return l }

func good() []api.Frame {
	one, full := []byte{9}, bytes.Repeat([]byte{1}, 64)
	return []api.Frame{
		{Kind: api.FKeep, Src: 1, Dst: 0}, {Kind: api.FKeep, Src: 15, Dst: 14, Seq: 255, IEs: ies(beat, beat, beat, beat), Data: []byte{}},
		{Kind: api.FAck, Src: 0, Dst: 15, IEs: ies(beat, api.IE{Kind: api.ICorrect, Ticks: -7})}, {Kind: api.FAck, Src: 0, Dst: 1},
		{Kind: api.FBeacon, Src: 0, Dst: api.All, IEs: ies(beat)}, {Kind: api.FBeacon, Src: 3, Dst: api.All, IEs: ies(api.IE{Kind: api.IHops}, beat)},
		{Kind: api.FData, Src: 0, Dst: 1, Data: one}, {Kind: api.FData, Src: 1, Dst: 0, Data: full, IEs: ies(beat)},
		{Kind: api.FCommand, Src: 0, Dst: 1, Data: one}, {Kind: api.FCommand, Src: 1, Dst: 0, Data: full},
	}
}

func bad() []api.Frame {
	one := []byte{9}
	return []api.Frame{
		{}, {Kind: 0, Src: 0, Dst: 1}, {Kind: 6, Src: 0, Dst: 1, Data: one}, {Kind: -1, Src: 0, Dst: 1}, {Kind: 6, Src: 0, Dst: 1},
		{Kind: api.FKeep, Src: 16, Dst: 1}, {Kind: api.FKeep, Src: -1, Dst: 1}, {Kind: api.FKeep, Src: api.All, Dst: 1}, {Kind: api.FBeacon, Src: api.All, Dst: api.All, IEs: ies(beat)},
		{Kind: api.FKeep, Src: 1, Dst: 1}, {Kind: api.FKeep, Src: 1, Dst: 16}, {Kind: api.FKeep, Src: 1, Dst: -1}, {Kind: api.FKeep, Src: 1, Dst: 63}, {Kind: api.FKeep, Src: 1, Dst: 65},
		{Kind: api.FKeep, Src: 1, Dst: 0, Seq: 256}, {Kind: api.FKeep, Src: 1, Dst: 0, Seq: -1},
		{Kind: api.FKeep, Src: 1, Dst: 0, IEs: ies(beat, beat, beat, beat, beat)}, {Kind: api.FKeep, Src: 1, Dst: 0, IEs: ies(beat, api.IE{Kind: 9})},
		{Kind: api.FKeep, Src: 1, Dst: api.All}, {Kind: api.FAck, Src: 1, Dst: api.All}, {Kind: api.FKeep, Src: 1, Dst: 0, Data: one}, {Kind: api.FAck, Src: 1, Dst: 0, Data: one},
		{Kind: api.FBeacon, Src: 1, Dst: 0, IEs: ies(beat)}, {Kind: api.FBeacon, Src: 1, Dst: api.All, IEs: ies(beat), Data: one}, {Kind: api.FBeacon, Src: 1, Dst: api.All}, {Kind: api.FBeacon, Src: 1, Dst: api.All, IEs: ies(api.IE{Kind: api.IHops})},
		{Kind: api.FData, Src: 1, Dst: api.All, Data: one}, {Kind: api.FCommand, Src: 1, Dst: api.All, Data: one}, {Kind: api.FData, Src: 1, Dst: 0}, {Kind: api.FCommand, Src: 1, Dst: 0},
		{Kind: api.FData, Src: 1, Dst: 0, Data: make([]byte, 65)}, {Kind: api.FCommand, Src: 1, Dst: 0, Data: make([]byte, 65)},
	}
}

// P7.1: what may be; P7.2: what may not is not encoded.
func TestMay(t *testing.T) {
	for i, f := range good() {
		if !frame.May(f) {
			t.Errorf("%d: %+v may be", i, f)
		}
	}
	for i, f := range bad() {
		if frame.May(f) {
			t.Errorf("%d: %+v may not be", i, f)
		}
		if b, err := frame.Encode(f); err != api.ErrArg || len(b) != 0 {
			t.Errorf("%d: %x %d", i, b, err)
		}
	}
}

// P7.1: alike in all.
func TestSame(t *testing.T) {
	for i, a := range append(good(), bad()...) {
		for j, b := range append(good(), bad()...) {
			if frame.Same(a, b) != (i == j) {
				t.Errorf("%d %d", i, j)
			}
		}
	}
	a := api.Frame{Kind: 1, Src: 2, Dst: 3, Seq: 4, Data: []byte{1}, IEs: ies(beat)}
	for i, change := range []func(*api.Frame){func(f *api.Frame) { f.Kind = 0 }, func(f *api.Frame) { f.Src = 0 }, func(f *api.Frame) { f.Dst = 0 }, func(f *api.Frame) { f.Seq = 0 }, func(f *api.Frame) { f.Data = []byte{2} }, func(f *api.Frame) { f.IEs = ies(beat, beat) }, func(f *api.Frame) { f.IEs = ies(api.IE{Kind: api.ISync}) }} {
		b := a
		if change(&b); frame.Same(a, b) || frame.Same(b, a) {
			t.Error(i)
		}
	}
	if !frame.Same(api.Frame{IEs: ies(), Data: []byte{}}, api.Frame{}) {
		t.Error("nil and empty are one")
	}
}

// 'The bytes', P7.2: known bytes.
func TestBytes(t *testing.T) {
	for _, x := range []struct {
		f api.Frame
		s string
	}{
		{api.Frame{Kind: api.FKeep, Src: 1, Dst: 0, Seq: 7}, "c5 04 01 00 07 01 00 00"},
		{api.Frame{Kind: api.FBeacon, Src: 2, Dst: api.All, Seq: 255, IEs: ies(beat)}, "c5 03 02 40 ff 09 01 01 06 0000000102 03 00"},
		{api.Frame{Kind: api.FData, Src: 15, Dst: 3, Data: []byte{0xab, 0xcd}}, "c5 01 0f 03 00 01 00 02 abcd"},
	} {
		want := crc.Append(unhex(t, x.s))
		if b, err := frame.Encode(x.f); err != api.OK || !bytes.Equal(b, want) {
			t.Errorf("%s: %x %d", x.s, b, err)
		}
		if f, err := frame.Decode(want); err != api.OK || !frame.Same(f, x.f) {
			t.Errorf("%s: %+v %d", x.s, f, err)
		}
	}
	if b, _ := frame.Encode(api.Frame{Kind: api.FKeep, Src: 1, Dst: 0}); len(b) != 10 {
		t.Error(len(b))
	}
}

// P7.2: the errors of Decode.
func TestDecodeErrors(t *testing.T) {
	for _, s := range []string{"", "c5", "c5 04 01 00 07 00 00 00"} {
		if f, err := frame.Decode(unhex(t, s)); err != api.ErrShort || !frame.Same(f, api.Frame{}) {
			t.Errorf("%s: %+v %d", s, f, err)
		}
	}
	for _, s := range []string{"c5 04 01 00 07 00 00 00 00", "c5 04 01 00 07 01 00 00 00 00", "00 00 00 00 00 00 00 00 01"} {
		if f, err := frame.Decode(unhex(t, s)); err != api.ErrSum || !frame.Same(f, api.Frame{}) {
			t.Errorf("%s: %+v %d", s, f, err)
		}
	}
	for s, want := range map[string]api.Errno{
		"c4 04 01 00 07 01 00 00": api.ErrForm, "00 00 00 00 00 00 00": api.ErrForm, "c4 04 01 00 07 00 00": api.ErrForm,
		"c5 04 01 00 07 02 00 00": api.ErrForm, "c5 04 01 00 07 03 00 00": api.ErrForm, "c5 04 01 00 07 ff 00 00": api.ErrForm,
		"c5 04 01 00 07 01 00 01": api.ErrForm, "c5 04 01 00 07 01 00 00 00": api.ErrForm, "c5 04 01 00 07 01 05 01": api.ErrForm,
		"c5 04 01 00 07 00 00": api.ErrShort, "c5 04 01 00 07 01 01 00": api.ErrShort, "c5 04 01 00 07 01 05 00": api.ErrForm, "c5 09 01 00 07 02 01 02 00": api.ErrShort, "c5 09 01 00 07 02 00 00 00": api.ErrForm,
		"c5 00 01 00 07 01 00 00": api.ErrForm, "c5 06 01 00 07 01 00 00": api.ErrForm, "c5 04 10 00 07 01 00 00": api.ErrForm, "c5 04 01 01 07 01 00 00": api.ErrForm, "c5 04 01 10 07 01 00 00": api.ErrForm,
		"c5 04 01 40 07 01 00 00": api.ErrForm, "c5 04 01 00 07 01 00 01 00": api.ErrForm, "c5 03 01 40 07 01 00 00": api.ErrForm, "c5 01 01 00 07 01 00 00": api.ErrForm,
		"c5 01 01 00 07 01 00 41" + strings.Repeat("00", 65): api.ErrForm,
	} {
		if f, err := frame.Decode(crc.Append(unhex(t, s))); err != want || !frame.Same(f, api.Frame{}) {
			t.Errorf("%s: %+v %d, not %d", s, f, err, want)
		}
	}
}

// R2: nothing is shared, nothing is changed.
func TestMemory(t *testing.T) {
	f := api.Frame{Kind: api.FData, Src: 0, Dst: 1, Data: []byte{1, 2, 3}[:2], IEs: ies(api.IE{Kind: api.IHops, List: []int{1}}, api.IE{Kind: api.IRoute, List: []int{2}})}
	b, _ := frame.Encode(f)
	was := bytes.Clone(b)
	got, _ := frame.Decode(b)
	got.Data = append(got.Data, 9)
	got.Data[0] = 8
	for i := range got.IEs {
		got.IEs[i].List = append(got.IEs[i].List, 7)
		got.IEs[i].List[0] = 6
	}
	again, _ := frame.Decode(b)
	if !bytes.Equal(b, was) || !frame.Same(again, f) || !slices.Equal(got.IEs[1].List, []int{6, 7}) {
		t.Error(b, again, got)
	}
}

// P7.3: both ways round; a change within two bytes side by side is told.
func TestRound(t *testing.T) {
	rnd := rand.New(rand.NewSource(7))
	for _, f := range good() {
		b, err := frame.Encode(f)
		got, err2 := frame.Decode(b)
		again, err3 := frame.Encode(got)
		if err != api.OK || err2 != api.OK || err3 != api.OK || !frame.Same(f, got) || !bytes.Equal(b, again) {
			t.Fatalf("%+v %+v", f, got)
		}
		for range 2000 {
			bad := bytes.Clone(b)
			at := rnd.Intn(len(bad) - 1)
			x := 1 + rnd.Intn(1<<16-1)
			bad[at] ^= byte(x)
			bad[at+1] ^= byte(x >> 8)
			if _, err := frame.Decode(bad); err != api.ErrSum {
				t.Fatalf("%x %d", bad, err)
			}
		}
	}
	for range 20000 {
		b := make([]byte, 5+rnd.Intn(12))
		for i := range b {
			b[i] = byte(rnd.Intn(6))
		}
		b[0] = 0xc5
		b = crc.Append(b)
		if f, err := frame.Decode(b); err == api.OK {
			if again, _ := frame.Encode(f); !bytes.Equal(b, again) {
				t.Fatalf("%x %x", b, again)
			}
		}
	}
}
