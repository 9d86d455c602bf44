package dup_test

import (
	"math/rand"
	"testing"

	"campanile/dup"
)

const most = 1<<63 - 1

// ask: numbers of node 3, and whether each is new.
func ask(t *testing.T, w *dup.Window, numbers ...int) {
	t.Helper()
	for i := 0; i < len(numbers); i += 2 {
		if got := w.New(3, numbers[i]); got != (numbers[i+1] == 1) {
			t.Errorf("%d: %d: %v", i/2, numbers[i], got)
		}
	}
}

// P12.1: what is new.
func TestNew(t *testing.T) {
	ask(t, dup.New(), 5, 1, 5, 0, 69, 1, 5, 0)
	ask(t, dup.New(), 0, 1, 0, 0, 63, 1, 0, 0, 1, 1, 1, 0, 62, 1, 64, 1, 0, 0, 2, 1)
	ask(t, dup.New(), 100, 1, 37, 1, 36, 0, 35, 0, 0, 0, -1, 0, 37, 0, 38, 1, 99, 1, 99, 0, 101, 1, 37, 0, 38, 0, 39, 1)
	ask(t, dup.New(), 10, 1, 9, 1, 73, 1, 10, 0, 9, 0, 72, 1, 11, 1)
	ask(t, dup.New(), 10, 1, 74, 1, 10, 0, 11, 1)
	ask(t, dup.New(), 10, 1, 75, 1, 11, 0, 12, 1)
	ask(t, dup.New(), 0, 1, most, 1, most, 0, 0, 0, most-63, 1, most-64, 0, most-63, 0)
	ask(t, dup.New(), -1, 0, -1<<63, 0, 0, 1)
}

// P12.1: each node by itself; what is no node.
func TestNodes(t *testing.T) {
	w := dup.New()
	for _, node := range []int{-1, 16, 64, -1 << 63, most} {
		if w.New(node, 5) {
			t.Error(node)
		}
		w.Forget(node)
		if n, ok := w.Last(node); n != 0 || ok {
			t.Error(node, n, ok)
		}
	}
	for node := range 16 {
		if n, ok := w.Last(node); n != 0 || ok {
			t.Error(node, n, ok)
		}
		if !w.New(node, 7) || w.New(node, 7) {
			t.Error(node)
		}
	}
	w.New(15, 9)
	w.New(15, 8)
	w.New(15, -5)
	for node, want := range map[int]int{0: 7, 15: 9} {
		if n, ok := w.Last(node); n != want || !ok {
			t.Error(node, n, ok)
		}
	}
	w.Forget(15)
	if n, ok := w.Last(15); n != 0 || ok || w.New(0, 7) {
		t.Error(n, ok)
	}
	if !w.New(15, 3) || !w.New(15, 2) {
		t.Error("not forgotten")
	}
	w.Forget(2)
	if !w.New(2, 0) {
		t.Error("not forgotten")
	}
	if n, ok := w.Last(2); n != 0 || !ok {
		t.Error(n, ok)
	}
}

// P12.1: nil.
func TestNil(t *testing.T) {
	var w *dup.Window
	w.Forget(1)
	if n, ok := w.Last(1); w.New(1, 1) || n != 0 || ok {
		t.Error("a nil window has something")
	}
}

// P12.2: no number is new twice; it is as a plain list of all numbers would have it.
func TestOnce(t *testing.T) {
	rnd := rand.New(rand.NewSource(12))
	for range 30 {
		w := dup.New()
		seen := map[int]bool{}
		last, at := -1, rnd.Intn(1000)
		for range 2000 {
			n := max(at+rnd.Intn(140)-70, 0)
			at += rnd.Intn(3)
			want := !seen[n] && (last < 0 || n > last-64)
			if got := w.New(9, n); got != want {
				t.Fatal(n, last, got)
			}
			if want {
				seen[n], last = true, max(last, n)
			}
			if got, ok := w.Last(9); got != last || !ok {
				t.Fatal(got, last)
			}
		}
	}
}
