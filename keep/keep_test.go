package keep_test

import (
	"testing"

	"campanile/keep"
)

// P15.1, P15.2: due just as long as nothing was heard for so long.
func TestDue(t *testing.T) {
	for every, want := range map[int]int{1: 1, 2: 2, 0: 1, -1: 1, -1 << 63: 1, 500: 500, 10000: 10000, 10001: 10000, 1<<63 - 1: 10000} {
		k := keep.New(every)
		for range 2 {
			for i := range want + 5 {
				if k.Since() != i || k.Due() != (i >= want) {
					t.Fatal(every, i, k.Since(), k.Due())
				}
				k.Slot()
			}
			k.Heard()
		}
		if k.Since() != 0 || k.Due() {
			t.Error(every, k.Since())
		}
	}
}

// P15.1: so many are counted, and no more.
func TestMost(t *testing.T) {
	k := keep.New(3)
	for range 999999 {
		k.Slot()
	}
	if k.Since() != 999999 {
		t.Error(k.Since())
	}
	for range 5 {
		k.Slot()
	}
	if k.Since() != 1000000 || !k.Due() {
		t.Error(k.Since())
	}
	if k.Heard(); k.Since() != 0 || k.Due() {
		t.Error(k.Since())
	}
}

// P15.1: nil.
func TestNil(t *testing.T) {
	var k *keep.Keeper
	k.Slot()
	k.Heard()
	if k.Due() || k.Since() != 0 {
		t.Error("a nil keeper has something")
	}
}
