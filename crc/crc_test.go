package crc_test

import (
	"bytes"
	"testing"

	"campanile/crc"
)

// P2.1: sums that are known.
func TestSum(t *testing.T) {
	for s, want := range map[string]uint16{"": 0, "\x00": 0, "\x01": 0x1189, "\x80": 0x8408, "123456789": 0x2189, "\x00\x00\x00": 0, "\x00\x01": 0x1189} {
		if got := crc.Sum([]byte(s)); got != want {
			t.Errorf("%q: %x, not %x", s, got, want)
		}
	}
}

// P2.1: the low byte first; b as it was; new memory.
func TestAppend(t *testing.T) {
	room := []byte("123456789......")
	b := room[:9]
	got := crc.Append(b)
	if string(got) != "123456789\x89\x21" || string(room) != "123456789......" {
		t.Errorf("%q %q", got, room)
	}
	got[0] = 'x'
	if b[0] != '1' {
		t.Error("one memory")
	}
	if got := crc.Append(nil); string(got) != "\x00\x00" {
		t.Errorf("%q", got)
	}
}

// P2.1: what is good.
func TestGood(t *testing.T) {
	for s, want := range map[string]bool{"": false, "\x00": false, "\x00\x00": true, "\x00\x01": false, "\x01\x00": false, "\x01\x89\x11": true, "\x01\x11\x89": false, "123456789\x89\x21": true, "123456789\x89\x20": false, "123456789\x88\x21": false, "223456789\x89\x21": false, "\x00\x00\x00": true} {
		if crc.Good([]byte(s)) != want {
			t.Errorf("%q", s)
		}
	}
}

// P2.2: any change within two bytes side by side is seen; the sum of what is good is 0.
func TestChange(t *testing.T) {
	b := []byte{0xc5, 1, 2, 0, 255, 7}
	good := crc.Append(b)
	if crc.Sum(good) != 0 {
		t.Error("Sum of what is good is not 0")
	}
	for at := range len(good) - 1 {
		for x := 1; x < 1<<16; x++ {
			bad := bytes.Clone(good)
			bad[at] ^= byte(x)
			bad[at+1] ^= byte(x >> 8)
			if crc.Good(bad) || crc.Sum(bad) == 0 || at+1 < len(b) && crc.Sum(bad[:len(b)]) == crc.Sum(b) {
				t.Fatalf("%d %x", at, x)
			}
		}
	}
}
