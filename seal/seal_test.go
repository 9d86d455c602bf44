package seal_test

import (
	"bytes"
	"encoding/binary"
	"hash/fnv"
	"testing"

	"campanile/seal"
)

// P17.1: the sum of the key, the bytes, the key.
func TestTag(t *testing.T) {
	for _, key := range []uint64{0, 1, 0x0123456789abcdef, 1 << 63, 1<<64 - 1} {
		for _, s := range []string{"", "a", "\x00", "campanile", "\xff\x00\xff"} {
			k := binary.BigEndian.AppendUint64(nil, key)
			h := fnv.New32a()
			h.Write(k)
			h.Write([]byte(s))
			h.Write(k)
			tag := h.Sum32()
			if got := seal.Tag(key, []byte(s)); got != tag {
				t.Errorf("%x %q: %x, not %x", key, s, got, tag)
			}
			if !seal.Good(key, []byte(s), tag) || seal.Good(key, []byte(s), tag+1) || seal.Good(key, []byte(s), tag^1<<31) || seal.Good(key^1, []byte(s), tag) {
				t.Errorf("%x %q", key, s)
			}
		}
	}
}

// P17.2: with one byte changed the tag is another one.
func TestChange(t *testing.T) {
	b := []byte("one byte of these")
	for _, key := range []uint64{0, 0xfedcba9876543210} {
		tag := seal.Tag(key, b)
		for at := range b {
			for x := 1; x < 256; x++ {
				bad := bytes.Clone(b)
				bad[at] ^= byte(x)
				if seal.Tag(key, bad) == tag || seal.Good(key, bad, tag) {
					t.Fatal(key, at, x)
				}
			}
		}
	}
}
