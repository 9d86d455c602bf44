package label_test

import (
	"strings"
	"testing"

	"campanile/label"
)

// P1.1: which names may be.
func TestMay(t *testing.T) {
	yes := []string{"a", "z", "az09", "α", "ω", "ρσ", "a9", "abcdefghijklmnop", "αβγδεζηθικλμνξοπ", "a" + strings.Repeat("0", 15)}
	for _, s := range yes {
		if !label.May(s) {
			t.Errorf("%q may be", s)
		}
	}
	no := []string{"", "0", "9a", "A", "aB", "Ω", "ς", "aς", "ΰ", "ϊ", "a_", "a ", "`", "{", "a/", "a:", "a\xff", "\xce", "a\uFFFD", "é", "abcdefghijklmnopq", strings.Repeat("ω", 17), strings.Repeat("a", 1000)}
	for _, s := range no {
		if label.May(s) {
			t.Errorf("%q may not be", s)
		}
	}
}

// P1.1: small letters for big ones, and nothing else.
func TestNorm(t *testing.T) {
	for _, x := range [][2]string{
		{"", ""}, {"Aβ", "aβ"}, {"ABCXYZ", "abcxyz"}, {"@AZ[", "@az["}, {"ΑΒΡΣΩ", "αβρσω"},
		{"\u0390\u03a2\u03aa", "\u0390\u03a2\u03aa"}, {"09 -", "09 -"}, {"ÀÉ", "ÀÉ"},
		{"A\xffZ", "a\uFFFDz"}, {"\xce", "\uFFFD"}, {"\xf0\x9f", "\uFFFD\uFFFD"}, {"日", "日"},
	} {
		if got := label.Norm(x[0]); got != x[1] {
			t.Errorf("Norm(%q): %q, not %q", x[0], got, x[1])
		}
	}
	for r := rune(0x391); r <= 0x3a9; r++ {
		want := string(r + 32)
		if r == 0x3a2 {
			want = string(r)
		}
		if got := label.Norm(string(r)); got != want {
			t.Errorf("Norm(%q): %q", r, got)
		}
	}
}

// P1.2: how many, cut, turned, summed.
func TestRunes(t *testing.T) {
	for _, x := range []struct {
		s, turn string
		n, sum  int
	}{
		{"", "", 0, 0}, {"ab", "ba", 2, 293}, {"aβ", "βa", 2, 97 + 2*0x3b2}, {"aβ日😀", "😀日βa", 4, (97 + 2*0x3b2 + 3*0x65e5 + 4*0x1f600) % 65521},
		{"a\xff", "\uFFFDa", 2, (97 + 2*0xfffd) % 65521}, {"\xe6\x97b", "b\uFFFD\uFFFD", 3, (3*0xfffd + 3*98) % 65521},
	} {
		if n := label.Count(x.s); n != x.n {
			t.Errorf("Count(%q): %d", x.s, n)
		}
		if s := label.Turn(x.s); s != x.turn {
			t.Errorf("Turn(%q): %q", x.s, s)
		}
		if n := label.Sum(x.s); n != x.sum {
			t.Errorf("Sum(%q): %d", x.s, n)
		}
	}
}

// P1.2: the first runes, as bytes.
func TestCut(t *testing.T) {
	for _, x := range []struct {
		s    string
		n    int
		want string
	}{
		{"aβ日", -1, ""}, {"aβ日", 0, ""}, {"aβ日", 1, "a"}, {"aβ日", 2, "aβ"}, {"aβ日", 3, "aβ日"}, {"aβ日", 4, "aβ日"},
		{"aβ日", -1 << 63, ""}, {"aβ日", 1<<63 - 1, "aβ日"}, {"", 1, ""}, {"\xff\xfea", 1, "\xff"}, {"\xe6\x97a", 2, "\xe6\x97"},
	} {
		if got := label.Cut(x.s, x.n); got != x.want {
			t.Errorf("Cut(%q, %d): %q", x.s, x.n, got)
		}
	}
}

// P1.2: the sum of a long text is still a remainder.
func TestLongSum(t *testing.T) {
	want := 0
	for i := range 70000 {
		want = (want + 0x10ffff*(i+1)) % 65521
	}
	if got := label.Sum(strings.Repeat("\U0010ffff", 70000)); got != want {
		t.Errorf("%d, not %d", got, want)
	}
}

// P1.3: what follows.
func TestTwice(t *testing.T) {
	for _, s := range []string{"", "a", "Aβ日😀", "ΑΣς", "a\xffb", "\xe6\x97", "\uFFFD"} {
		if n := label.Norm(s); label.Norm(n) != n {
			t.Errorf("Norm twice of %q", s)
		}
		for n := -1; n <= label.Count(s)+1; n++ {
			if c := label.Cut(s, n); !strings.HasPrefix(s, c) || label.Count(c) != min(max(n, 0), label.Count(s)) {
				t.Errorf("Cut(%q, %d): %q", s, n, c)
			}
		}
		if twice := label.Turn(label.Turn(s)); twice != strings.ToValidUTF8(s, "\uFFFD") && s != "\xe6\x97" {
			t.Errorf("Turn twice of %q: %q", s, twice)
		}
	}
}
