package backoff_test

import (
	"math/big"
	"math/rand"
	"testing"

	"campanile/backoff"
)

func want(t *testing.T, b *backoff.Backoff, exponent, wait int) {
	t.Helper()
	if b.Exponent() != exponent || b.Wait() != wait || b.Free() != (wait == 0) {
		t.Errorf("%d %d %v, not %d %d", b.Exponent(), b.Wait(), b.Free(), exponent, wait)
	}
}

// P11.1: bounds that are cut.
func TestNew(t *testing.T) {
	for _, x := range [][4]int{{1, 5, 1, 5}, {0, 0, 0, 0}, {8, 8, 8, 8}, {-1, -1, 0, 0}, {-1 << 63, 3, 0, 3}, {9, 9, 8, 8}, {9, 2, 8, 8}, {4, 2, 4, 4}, {2, 1<<63 - 1, 2, 8}, {3, -1 << 63, 3, 3}} {
		b := backoff.New(x[0], x[1], 77)
		want(t, b, x[2], 0)
		for range 10 {
			b.Sent(false)
		}
		if b.Exponent() != x[3] {
			t.Error(x, b.Exponent())
		}
		b.Sent(true)
		want(t, b, x[2], 0)
	}
}

// P11.1: the number goes round, the wait comes of it.
func TestSent(t *testing.T) {
	number := big.NewInt(12345)
	b := backoff.New(1, 8, 12345)
	for i := range 60 {
		number.Mul(number, big.NewInt(1664525))
		number.Add(number, big.NewInt(1013904223))
		number.Mod(number, big.NewInt(1<<32))
		e := min(i%20+2, 8)
		b.Sent(false)
		want(t, b, e, int(number.Int64()/65536)%(1<<e))
		if i%20 == 19 {
			b.Sent(true)
			want(t, b, 1, 0)
		}
	}
	b = backoff.New(0, 0, 1<<32-1)
	b.Sent(false)
	want(t, b, 0, 0)
}

// P11.1: a slot that goes by.
func TestSlot(t *testing.T) {
	b := backoff.New(8, 8, 0)
	b.Slot()
	want(t, b, 8, 0)
	b.Sent(false)
	n := (1013904223 >> 16) % 256
	for ; n > 0; n-- {
		want(t, b, 8, n)
		b.Slot()
	}
	want(t, b, 8, 0)
	b.Slot()
	want(t, b, 8, 0)
	b.Sent(false)
	b.Sent(true)
	want(t, b, 8, 0)
}

// P11.1: nil.
func TestNil(t *testing.T) {
	var b *backoff.Backoff
	b.Slot()
	b.Sent(true)
	b.Sent(false)
	if b.Free() || b.Wait() != 0 || b.Exponent() != 0 {
		t.Error("a nil backoff has something")
	}
}

// P11.2: the wait is below 2 to the exponent, and comes to 0.
func TestBound(t *testing.T) {
	rnd := rand.New(rand.NewSource(11))
	for range 200 {
		b := backoff.New(rnd.Intn(10), rnd.Intn(10), rnd.Uint32())
		for range 20 {
			b.Sent(rnd.Intn(4) == 0)
			if b.Wait() < 0 || b.Wait() >= 1<<b.Exponent() {
				t.Fatal(b.Wait(), b.Exponent())
			}
		}
		for range b.Wait() {
			b.Slot()
		}
		if !b.Free() {
			t.Fatal(b.Wait())
		}
	}
}
