package bits_test

import (
	"bytes"
	"math/rand"
	"testing"

	"campanile/api"
	"campanile/bits"
)

// P3.1: numbers of any width, the highest bit first.
func TestPut(t *testing.T) {
	var w bits.Writer
	if w.Bits() != 0 || len(w.Bytes()) != 0 {
		t.Error("a zero writer has something")
	}
	w.Put(5, 3)
	w.Put(1, 2)
	w.Put(258, 40)
	if got := w.Bytes(); !bytes.Equal(got, []byte{0xa8, 0, 0, 0, 8, 0x10}) || w.Bits() != 45 {
		t.Errorf("%x %d", got, w.Bits())
	}
	w.Put(7, 2) // what filled up the last byte was only told
	w.Put(1<<63|1, 64)
	if got := w.Bytes(); !bytes.Equal(got, []byte{0xa8, 0, 0, 0, 8, 0x17, 0, 0, 0, 0, 0, 0, 0, 2}) || w.Bits() != 111 {
		t.Errorf("%x %d", got, w.Bits())
	}
}

// P3.1: only the lowest bits count; a width that may not be puts nothing.
func TestPutWidths(t *testing.T) {
	var w bits.Writer
	for _, width := range []int{0, -1, 65, 1000, -1 << 63, 1<<63 - 1} {
		w.Put(1<<64-1, width)
	}
	if w.Bits() != 0 || len(w.Bytes()) != 0 {
		t.Errorf("%d %x", w.Bits(), w.Bytes())
	}
	w.Put(0xfff5, 4)
	w.Put(1<<64-1, 1)
	w.Put(1<<64-2, 1)
	if w.Bits() != 6 || !bytes.Equal(w.Bytes(), []byte{0x58}) {
		t.Errorf("%d %x", w.Bits(), w.Bytes())
	}
	w.Put(0x0123456789abcdef, 64)
	if w.Bits() != 70 || !bytes.Equal(w.Bytes(), []byte{0x58, 0x04, 0x8d, 0x15, 0x9e, 0x26, 0xaf, 0x37, 0xbc}) {
		t.Errorf("%d %x", w.Bits(), w.Bytes())
	}
}

// P3.1: bytes, and whole bytes.
func TestText(t *testing.T) {
	var w bits.Writer
	b := []byte{0x12, 0xff}
	w.Text(b)
	w.Even()
	w.Put(1, 1)
	w.Text(b)
	w.Text(nil)
	if w.Bits() != 33 || !bytes.Equal(w.Bytes(), []byte{0x12, 0xff, 0x89, 0x7f, 0x80}) {
		t.Errorf("%d %x", w.Bits(), w.Bytes())
	}
	w.Even()
	w.Even()
	w.Put(0xa, 4)
	if w.Bits() != 44 || !bytes.Equal(w.Bytes(), []byte{0x12, 0xff, 0x89, 0x7f, 0x80, 0xa0}) {
		t.Errorf("%d %x", w.Bits(), w.Bytes())
	}
	w.Bytes()[0] = 9
	b[0] = 9
	if w.Bytes()[0] != 0x12 {
		t.Error("one memory")
	}
}

// P3.1: bytes behind any number of bits.
func TestTextBehind(t *testing.T) {
	for ahead := range 20 {
		var a, b bits.Writer
		a.Put(1, ahead)
		b.Put(1, ahead)
		text := []byte{0x12, 0xff, 0x80}
		a.Text(text)
		for _, x := range text {
			b.Put(uint64(x), 8)
		}
		a.Put(5, 3)
		b.Put(5, 3)
		if a.Bits() != ahead+27 || !bytes.Equal(a.Bytes(), b.Bytes()) {
			t.Errorf("%d: %x, not %x", ahead, a.Bytes(), b.Bytes())
		}
		r := bits.NewReader(a.Bytes())
		r.Take(ahead)
		if one, two := r.Text(1), r.Text(2); !bytes.Equal(one, text[:1]) || !bytes.Equal(two, text[1:]) || r.Take(3) != 5 || r.Left() != len(a.Bytes())*8-ahead-27 {
			t.Errorf("%d: %x %x", ahead, one, two)
		}
	}
}

// P3.2: as long as a bit is left it is not the end.
func TestEnd(t *testing.T) {
	r := bits.NewReader([]byte{0})
	for range 8 {
		if r.End() != api.ErrForm {
			t.Error(r.Left(), r.End())
		}
		r.Take(1)
	}
	if r.End() != api.OK {
		t.Error(r.End())
	}
}

// P3.2: numbers that are taken.
func TestTake(t *testing.T) {
	b := []byte{0xa8, 0, 0, 0, 8, 0x10}
	r := bits.NewReader(b)
	b[0] = 0
	if r.Left() != 48 || r.End() != api.ErrForm {
		t.Error(r.Left(), r.End())
	}
	for _, width := range []int{0, -1, 65, -1 << 63, 1<<63 - 1} {
		if r.Take(width) != 0 || r.Left() != 48 {
			t.Error(width, r.Left())
		}
	}
	if a, b, c := r.Take(3), r.Take(2), r.Take(40); a != 5 || b != 1 || c != 258 || r.Left() != 3 {
		t.Error(a, b, c, r.Left())
	}
	if r.Even(); r.Left() != 0 || r.End() != api.OK {
		t.Error(r.Left(), r.End())
	}
	if r.Even(); r.End() != api.OK {
		t.Error(r.End())
	}
	if r.Take(0) != 0 || r.End() != api.OK {
		t.Error(r.End())
	}
	full := bits.NewReader(bytes.Repeat([]byte{0xff}, 8))
	if full.Take(64) != 1<<64-1 || full.End() != api.OK {
		t.Error(full.End())
	}
}

// P3.2: bytes that are taken.
func TestTextTaken(t *testing.T) {
	r := bits.NewReader([]byte{0x12, 0x34, 0x56, 0x78, 0x9a})
	if got := r.Text(2); !bytes.Equal(got, []byte{0x12, 0x34}) {
		t.Errorf("%x", got)
	}
	if a, b := r.Text(0), r.Text(-1); len(a)+len(b) != 0 || r.Left() != 24 || len(r.Text(-1<<63)) != 0 {
		t.Error(r.Left())
	}
	if r.Take(4) != 5 || !bytes.Equal(r.Text(2), []byte{0x67, 0x89}) || r.Left() != 4 || r.Take(4) != 10 || r.End() != api.OK {
		t.Error(r.Left(), r.End())
	}
	whole := bits.NewReader([]byte{1, 2})
	got := whole.Text(2)
	got[0] = 9
	if whole.End() != api.OK {
		t.Error(whole.End())
	}
}

// gone: r has met e, and tells nothing any more.
func gone(t *testing.T, r *bits.Reader, e api.Errno) {
	t.Helper()
	r.Even()
	if r.Left() != 0 || r.Take(1) != 0 || r.Take(8) != 0 || len(r.Text(1)) != 0 || r.Left() != 0 || r.End() != e || r.End() != e {
		t.Error(r.Left(), r.End())
	}
}

// P3.2: what ends too soon.
func TestShort(t *testing.T) {
	r := bits.NewReader([]byte{0xff, 0xff})
	r.Take(8)
	if r.Take(9) != 0 {
		t.Error("told too much")
	}
	gone(t, r, api.ErrShort)
	r = bits.NewReader([]byte{0xff, 0xff})
	r.Take(1)
	if r.Text(2) != nil {
		t.Error("told too much")
	}
	gone(t, r, api.ErrShort)
	for _, n := range []int{3, 1 << 61, 1<<61 + 1, 1<<63 - 1} {
		r = bits.NewReader([]byte{0xff, 0xff})
		if r.Text(n) != nil {
			t.Error("told too much", n)
		}
		gone(t, r, api.ErrShort)
	}
	r = bits.NewReader(nil)
	if r.End() != api.OK || r.Take(1) != 0 {
		t.Error(r.End())
	}
	gone(t, r, api.ErrShort)
}

// P3.2: what fills up is to be 0.
func TestUneven(t *testing.T) {
	for bit := range 7 {
		r := bits.NewReader([]byte{1 << bit, 0xff})
		r.Take(1)
		r.Even()
		gone(t, r, api.ErrForm)
	}
	r := bits.NewReader([]byte{0x80, 0xff})
	r.Even()
	r.Take(1)
	if r.Even(); r.Left() != 8 || r.Take(8) != 255 || r.End() != api.OK {
		t.Error(r.Left(), r.End())
	}
}

// P3.2: nil ones.
func TestNil(t *testing.T) {
	var w *bits.Writer
	w.Put(1, 1)
	w.Text([]byte{1})
	w.Even()
	if w.Bits() != 0 || len(w.Bytes()) != 0 {
		t.Error("a nil writer has something")
	}
	var r *bits.Reader
	r.Even()
	if r.Take(1) != 0 || len(r.Text(1)) != 0 || r.Left() != 0 || r.End() != api.ErrArg {
		t.Error("a nil reader has something")
	}
}

// P3.3: what was put is taken; cuts between widths make no difference.
func TestRound(t *testing.T) {
	rnd := rand.New(rand.NewSource(3))
	for range 500 {
		var a, b bits.Writer
		var numbers []uint64
		var widths []int
		for range rnd.Intn(20) {
			n, width := rnd.Uint64(), rnd.Intn(65)
			a.Put(n, width)
			cut := rnd.Intn(width + 1)
			if cut < 64 {
				b.Put(n>>(width-cut), cut)
				b.Put(n, width-cut)
			} else {
				b.Put(n, width)
			}
			if width < 64 {
				n &= 1<<width - 1
			}
			numbers, widths = append(numbers, n), append(widths, width)
		}
		if a.Bits() != b.Bits() || !bytes.Equal(a.Bytes(), b.Bytes()) {
			t.Fatalf("%x %x", a.Bytes(), b.Bytes())
		}
		r := bits.NewReader(a.Bytes())
		for i, n := range numbers {
			if got := r.Take(widths[i]); got != n {
				t.Fatalf("%d %d: %x, not %x", i, widths[i], got, n)
			}
		}
		if r.Even(); r.End() != api.OK {
			t.Fatal(r.End())
		}
	}
}
