// Package label: names, rune by rune: see ../../shared/doc/01-label.md.
package label

import (
	"strings"
	"unicode/utf8"
)

const (
	mostRunes = 16
	modulus   = 65521
	toSmall   = 32 // from a big letter to its small one, in both alphabets
)

// May tells whether s may be a name.
func May(s string) bool {
	n := 0
	for _, r := range s {
		if !isSmall(r) && (n == 0 || !isDigit(r)) {
			return false
		}
		n++
		if n > mostRunes {
			return false
		}
	}
	return n > 0
}

// Norm is s with small letters for big ones.
func Norm(s string) string {
	var b strings.Builder
	for _, r := range s {
		if isBig(r) {
			r += toSmall
		}
		b.WriteRune(r)
	}
	return b.String()
}

// Count tells how many runes s has.
func Count(s string) int {
	n := 0
	for range s {
		n++
	}
	return n
}

// Cut is the bytes of the first n runes of s.
func Cut(s string, n int) string {
	if n <= 0 {
		return ""
	}
	for i := range s {
		if n == 0 {
			return strings.Clone(s[:i])
		}
		n--
	}
	return strings.Clone(s)
}

// Sum adds each rune times its place.
func Sum(s string) int {
	sum, place := 0, 0
	for _, r := range s {
		place++
		sum = (sum + int(r)*place) % modulus
	}
	return sum
}

// Turn is the runes of s from the last one to the first one.
func Turn(s string) string {
	size := 0
	for _, r := range s {
		size += utf8.RuneLen(r)
	}
	b := make([]byte, size)
	for _, r := range s {
		size -= utf8.RuneLen(r)
		utf8.EncodeRune(b[size:], r)
	}
	return string(b)
}

func isDigit(r rune) bool { return r >= '0' && r <= '9' }

// The Greek block has a final sigma among its small letters, and a gap at the same place among its big ones.
func isSmall(r rune) bool {
	return r >= 'a' && r <= 'z' || r >= 0x3b1 && r <= 0x3c9 && r != 0x3c2
}

func isBig(r rune) bool {
	return r >= 'A' && r <= 'Z' || r >= 0x391 && r <= 0x3a9 && r != 0x3a2
}
