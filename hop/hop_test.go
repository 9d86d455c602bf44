package hop_test

import (
	"slices"
	"testing"

	"campanile/api"
	"campanile/hop"
)

func upTo(n int) []int {
	var l []int
	for i := range n {
		l = append(l, i)
	}
	return l
}

// P5.1: which lists may be.
func TestMay(t *testing.T) {
	for i, x := range []struct {
		l    []int
		want bool
	}{
		{nil, false}, {[]int{}, false}, {[]int{0}, true}, {[]int{31}, true}, {[]int{32}, false}, {[]int{-1}, false}, {[]int{11, 20, 26}, true}, {[]int{11, 20, 11}, false}, {[]int{5, 5}, false},
		{upTo(16), true}, {upTo(17), false}, {[]int{1 << 62}, false}, {[]int{-1 << 63}, false}, {[]int{3, 35}, false},
	} {
		if hop.May(x.l) != x.want {
			t.Errorf("%d: %v", i, x.l)
		}
	}
}

// P5.1: those that are not black.
func TestOpen(t *testing.T) {
	for i, x := range []struct {
		l     []int
		black uint32
		want  []int
	}{
		{[]int{20, 11, 26}, 0, []int{20, 11, 26}}, {[]int{20, 11, 26}, 1 << 11, []int{20, 26}}, {[]int{20, 11, 26}, ^uint32(1 << 26), []int{26}}, {[]int{20, 11, 26}, 1<<11 | 1<<20 | 1<<26, []int{20, 11, 26}},
		{[]int{31, 0}, 1 << 31, []int{0}}, {[]int{31, 0}, 1, []int{31}}, {[]int{31, 0}, 1<<32 - 1, []int{31, 0}}, {nil, 0, nil}, {[]int{1, 1}, 0, nil}, {[]int{1, 32}, 0, nil}, {upTo(17), 0, nil},
	} {
		l := slices.Clone(x.l)
		got := hop.Open(l, x.black)
		if !slices.Equal(got, x.want) || !slices.Equal(l, x.l) {
			t.Errorf("%d: %v", i, got)
		}
		for i := range got {
			got[i] = -1
		}
		if !slices.Equal(l, x.l) {
			t.Errorf("%d: one memory", i)
		}
	}
}

// P5.2: the channel of a slot.
func TestChannel(t *testing.T) {
	l := []int{11, 20, 26}
	for i, x := range []struct {
		black uint32
		asn   int64
		off   int
		want  int
	}{
		{0, 4, 1, 26}, {0, 0, 0, 11}, {0, 1, 0, 20}, {0, 3, 0, 11}, {0, 0, 255, 11}, {0, 0, 254, 26}, {0, 0, 256, -1}, {0, 0, -1, -1}, {0, -1, 1, -1}, {0, -1, 0, -1},
		{0, api.MaxASN - 1, 0, 11}, {0, api.MaxASN - 1, 255, 11}, {0, api.MaxASN, 0, -1}, {0, 1<<63 - 1, 1, -1}, {0, -1 << 63, 1, -1}, {0, 1, 1<<63 - 1, -1},
		{1 << 20, 1, 0, 26}, {1 << 20, 2, 0, 11}, {1<<11 | 1<<20 | 1<<26, 4, 1, 26},
	} {
		if got := hop.Channel(l, x.black, x.asn, x.off); got != x.want {
			t.Errorf("%d: %d, not %d", i, got, x.want)
		}
	}
	for _, bad := range [][]int{nil, {1, 1}, {32}, upTo(17)} {
		if got := hop.Channel(bad, 0, 0, 0); got != -1 {
			t.Errorf("%v: %d", bad, got)
		}
	}
}

// P5.3: two offsets meet just where they differ by a multiple; each channel comes once.
func TestMeet(t *testing.T) {
	l, black := []int{15, 11, 25, 20, 3}, uint32(1<<25)
	n := len(hop.Open(l, black))
	for asn := int64(100); asn < 105; asn++ {
		for a := range 256 {
			for b := range 256 {
				if (hop.Channel(l, black, asn, a) == hop.Channel(l, black, asn, b)) != ((a-b)%n == 0) {
					t.Fatal(asn, a, b)
				}
			}
		}
	}
	for asn := int64(0); asn < 9; asn++ {
		var seen []int
		for i := range n {
			seen = append(seen, hop.Channel(l, black, asn+int64(i), 7))
		}
		slices.Sort(seen)
		if !slices.Equal(seen, []int{3, 11, 15, 20}) {
			t.Fatal(asn, seen)
		}
	}
}
