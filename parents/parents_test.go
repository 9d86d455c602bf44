package parents_test

import (
	"cmp"
	"math/rand"
	"slices"
	"testing"

	"campanile/parents"
)

const (
	big   = 1<<63 - 1
	small = -1 << 63
)

func want(t *testing.T, s *parents.Set, rank int, all ...int) {
	t.Helper()
	if s.Rank() != rank || !slices.Equal(s.All(), all) {
		t.Errorf("rank %d, %v, not %d, %v", s.Rank(), s.All(), rank, all)
	}
	first, ok := s.First()
	if ok != (len(all) > 0) || ok && first != all[0] || !ok && first != 0 {
		t.Errorf("first %d %v of %v", first, ok, all)
	}
}

// P14.1: who may be.
func TestNew(t *testing.T) {
	for _, x := range [][2]int{{-1, 0}, {16, 0}, {64, 0}, {0, -1}, {0, 256}, {big, 1}, {1, small}} {
		if parents.New(x[0], x[1]) != nil {
			t.Error(x)
		}
	}
	for _, x := range [][2]int{{0, 0}, {15, 255}, {7, 3}} {
		want(t, parents.New(x[0], x[1]), x[1])
	}
}

// P14.2: who is heard.
func TestHear(t *testing.T) {
	s := parents.New(1, 5)
	for _, x := range []struct {
		node, rank int
		now        int64
	}{{-1, 1, 0}, {16, 1, 0}, {1, 1, 0}, {2, -1, 0}, {2, 256, 0}, {2, 1, -1}, {2, 1, small}, {big, 1, 1}, {2, small, 1}, {2, 5, 0}, {2, 255, 0}} {
		if s.Hear(x.node, x.rank, x.now) {
			t.Error(x)
		}
		want(t, s, 5)
	}
	if !s.Hear(7, 4, 0) {
		t.Error("not there")
	}
	want(t, s, 5, 7)
	if !s.Hear(3, 4, 1) || !s.Hear(9, 4, 2) {
		t.Error("not there")
	}
	want(t, s, 5, 3, 7, 9)
	if s.Hear(12, 4, 3) {
		t.Error("there")
	}
	want(t, s, 5, 3, 7, 9)
	if !s.Hear(5, 4, 3) {
		t.Error("not there")
	}
	want(t, s, 5, 3, 5, 7)
	if !s.Hear(8, 2, big) {
		t.Error("not there")
	}
	want(t, s, 3, 8)
	if !s.Hear(6, 2, 5) || !s.Hear(0, 2, 5) {
		t.Error("not there")
	}
	want(t, s, 3, 0, 6, 8)
	if s.Hear(6, 3, 6) {
		t.Error("there")
	}
	want(t, s, 3, 0, 8)
	if n, ok := s.RankOf(6); n != 0 || ok {
		t.Error(n, ok)
	}
	for _, bad := range [][2]int{{0, 256}, {0, -1}} {
		s.Hear(bad[0], bad[1], 9)
	}
	s.Hear(0, 9, -1)
	want(t, s, 3, 0, 8)
	if !s.Hear(8, 1, 7) {
		t.Error("not there")
	}
	want(t, s, 2, 8)
	if !s.Hear(8, 0, 8) {
		t.Error("not there")
	}
	want(t, s, 1, 8)
	if !s.Hear(4, 0, 8) || s.Hear(4, 1, 9) || s.Hear(8, 200, 9) {
		t.Error("hear")
	}
	want(t, s, 1)
	zero := parents.New(0, 0)
	if zero.Hear(1, 0, 1) {
		t.Error("there")
	}
	want(t, zero, 0)
}

// P14.2, P14.3: by rank, then number; ranks that are told.
func TestRanks(t *testing.T) {
	s := parents.New(0, 10)
	s.Hear(4, 9, 1)
	s.Hear(5, 9, 1)
	if n, ok := s.RankOf(5); n != 9 || !ok {
		t.Error(n, ok)
	}
	for _, node := range []int{0, 1, -1, 16, big} {
		if n, ok := s.RankOf(node); n != 0 || ok {
			t.Error(node, n, ok)
		}
	}
	s.All()[0] = 7
	want(t, s, 10, 4, 5)
	// of four of one rank the greatest number goes
	s = parents.New(0, 3)
	s.Hear(5, 0, 1)
	want(t, s, 1, 5)
	s.Hear(4, 0, 1)
	s.Hear(3, 0, 1)
	if !s.Hear(2, 0, 1) {
		t.Error("not there")
	}
	want(t, s, 1, 2, 3, 4)
	if s.Hear(5, 0, 1) {
		t.Error("there")
	}
}

// P14.2: who was not heard for long.
func TestOld(t *testing.T) {
	s := parents.New(1, 5)
	s.Hear(9, 4, 10)
	s.Hear(3, 4, 10)
	s.Hear(6, 4, 11)
	for _, x := range []struct {
		now  int64
		loss int
	}{{13, 4}, {0, 1}, {-1, 1}, {small, big}, {small, 1}, {10, 1}, {10, 0}, {10, -5}, {10, small}} {
		if gone := s.Old(x.now, x.loss); len(gone) != 0 {
			t.Error(x, gone)
		}
	}
	want(t, s, 5, 3, 6, 9)
	if gone := s.Old(14, 4); !slices.Equal(gone, []int{3, 9}) {
		t.Error(gone)
	}
	want(t, s, 5, 6)
	s.Hear(6, 4, 20)
	if gone := s.Old(20, 0); len(gone) != 0 {
		t.Error(gone)
	}
	if gone := s.Old(21, -7); !slices.Equal(gone, []int{6}) {
		t.Error(gone)
	}
	want(t, s, 5)
	s.Hear(6, 4, big)
	s.Hear(7, 4, 0)
	if gone := s.Old(big, big); !slices.Equal(gone, []int{7}) {
		t.Error(gone)
	}
	if gone := s.Old(big, 1); len(gone) != 0 {
		t.Error(gone)
	}
	want(t, s, 5, 6)
}

// P14.1 to P14.3: nil.
func TestNil(t *testing.T) {
	var s *parents.Set
	if s.Hear(1, 0, 0) || len(s.Old(9, 1)) != 0 {
		t.Error("a nil set has something")
	}
	if n, ok := s.RankOf(1); n != 0 || ok {
		t.Error(n, ok)
	}
	want(t, s, 0)
}

// P14.2 to P14.4: as a plain list would have it; its rank never rises, and is above all that it follows.
func TestRandom(t *testing.T) {
	type one struct {
		node, rank int
		at         int64
	}
	rnd := rand.New(rand.NewSource(14))
	for range 100 {
		rank := rnd.Intn(12)
		s := parents.New(2, rank)
		var plain []one
		for now := int64(0); now < 100; now++ {
			node, r := rnd.Intn(8), rnd.Intn(12)
			got := s.Hear(node, r, now)
			if node != 2 {
				plain = slices.DeleteFunc(plain, func(p one) bool { return p.node == node })
				if r < rank {
					plain = append(plain, one{node, r, now})
					rank = min(rank, r+1)
				}
				plain = slices.DeleteFunc(plain, func(p one) bool { return p.rank >= rank })
				slices.SortFunc(plain, func(a, b one) int { return cmp.Or(a.rank-b.rank, a.node-b.node) })
				plain = plain[:min(3, len(plain))]
			}
			if got != (node != 2 && slices.ContainsFunc(plain, func(p one) bool { return p.node == node })) {
				t.Fatal(now, node, r, got)
			}
			if rnd.Intn(5) == 0 {
				var gone []int
				plain = slices.DeleteFunc(plain, func(p one) bool {
					if p.at <= now-6 {
						gone = append(gone, p.node)
					}
					return p.at <= now-6
				})
				slices.Sort(gone)
				if old := s.Old(now, 6); !slices.Equal(old, gone) {
					t.Fatal(now, old, gone)
				}
			}
			var nodes []int
			for _, p := range plain {
				nodes = append(nodes, p.node)
				if r, ok := s.RankOf(p.node); r != p.rank || !ok || r >= s.Rank() {
					t.Fatal(now, r, p, s.Rank())
				}
			}
			want(t, s, rank, nodes...)
			if t.Failed() {
				t.FailNow()
			}
		}
	}
}
