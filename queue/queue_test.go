package queue_test

import (
	"math/rand"
	"slices"
	"testing"

	"campanile/queue"
)

// room counts how many a queue takes.
func room(q *queue.Queue) int {
	n := 0
	for q.Put(n, nil) {
		n++
	}
	return n
}

// P10.1: how much room there is.
func TestNew(t *testing.T) {
	for most, want := range map[int]int{1: 1, 0: 1, -1: 1, -1 << 63: 1, 7: 7, 32: 32, 33: 32, 1<<63 - 1: 32} {
		q := queue.New(most)
		if q.Len() != 0 || q.Lost() != 0 || len(q.To()) != 0 {
			t.Error(most, "is not empty")
		}
		if n := room(q); n != want || q.Len() != want || q.Lost() != 1 {
			t.Error(most, n, q.Len(), q.Lost())
		}
	}
}

// P10.1: in order; whom to; what goes.
func TestPut(t *testing.T) {
	q := queue.New(3)
	b := []byte("abc")
	if !q.Put(5, b) || !q.Put(64, []byte("d")) || !q.Put(5, nil) || q.Put(1, b) || q.Put(2, b) {
		t.Error("put")
	}
	b[0] = 'x'
	if !slices.Equal(q.To(), []int{5, 64, 5}) || q.Len() != 3 || q.Lost() != 2 {
		t.Error(q.To(), q.Len(), q.Lost())
	}
	q.To()[0] = 9
	got, ok := q.At(0)
	if string(got) != "abc" || !ok {
		t.Error(got, ok)
	}
	got[0] = 'y'
	if got, ok := q.At(0); string(got) != "abc" || !ok || q.To()[0] != 5 {
		t.Error(got, ok)
	}
	if got, ok := q.At(2); len(got) != 0 || !ok {
		t.Error(got, ok)
	}
	for _, i := range []int{-1, 3, 1 << 62, -1 << 63} {
		a, oka := q.At(i)
		b, okb := q.Take(i)
		if len(a)+len(b) != 0 || oka || okb || q.Len() != 3 {
			t.Error(i, a, b)
		}
	}
	if got, ok := q.Take(1); string(got) != "d" || !ok || !slices.Equal(q.To(), []int{5, 5}) {
		t.Error(got, ok, q.To())
	}
	if !q.Put(7, []byte("e")) || q.Lost() != 2 {
		t.Error("put")
	}
	for _, want := range []string{"abc", "", "e"} {
		if got, ok := q.Take(0); string(got) != want || !ok {
			t.Error(got, ok)
		}
	}
	if got, ok := q.Take(0); len(got) != 0 || ok || q.Len() != 0 {
		t.Error(got, ok)
	}
}

// P10.1: whom they go to now.
func TestMove(t *testing.T) {
	q := queue.New(5)
	for i, to := range []int{3, 4, 3, 64, 3} {
		q.Put(to, []byte{byte(i)})
	}
	if n := q.Move(3, 8); n != 3 || !slices.Equal(q.To(), []int{8, 4, 8, 64, 8}) {
		t.Error(n, q.To())
	}
	if n := q.Move(3, 8); n != 0 {
		t.Error(n)
	}
	if n := q.Move(8, 4); n != 3 || !slices.Equal(q.To(), []int{4, 4, 4, 64, 4}) {
		t.Error(n, q.To())
	}
	if b, _ := q.At(2); !slices.Equal(b, []byte{2}) {
		t.Error(b)
	}
}

// P10.1: what was lost is counted up to its bound.
func TestLost(t *testing.T) {
	q := queue.New(1)
	q.Put(1, nil)
	for range 999999 {
		q.Put(1, nil)
	}
	if q.Lost() != 999999 {
		t.Error(q.Lost())
	}
	for range 3 {
		q.Put(1, nil)
	}
	if q.Lost() != 1000000 {
		t.Error(q.Lost())
	}
}

// P10.1: nil.
func TestNil(t *testing.T) {
	var q *queue.Queue
	a, oka := q.At(0)
	b, okb := q.Take(0)
	if q.Put(1, nil) || oka || okb || len(a)+len(b)+len(q.To())+q.Move(1, 2)+q.Len()+q.Lost() != 0 {
		t.Error("a nil queue has something")
	}
}

// P10.2: what goes in comes out, in order, once.
func TestOrder(t *testing.T) {
	rnd := rand.New(rand.NewSource(10))
	q := queue.New(4)
	in, out, lost := 0, 0, 0
	var waits []int
	for i := range 5000 {
		if rnd.Intn(5) < 3 {
			if q.Put(i, []byte{byte(i), byte(i >> 8)}) {
				waits = append(waits, i)
				in++
			} else {
				lost++
			}
		} else if b, ok := q.Take(0); ok {
			if want := waits[0]; int(b[0])|int(b[1])<<8 != want {
				t.Fatal(b, want)
			}
			waits = waits[1:]
			out++
		}
		if !slices.Equal(waits, q.To()) || q.Lost() != lost || q.Len() > 4 {
			t.Fatal(waits, q.To(), q.Lost(), lost)
		}
	}
	if in != out+q.Len() || lost == 0 {
		t.Error(in, out, lost)
	}
}
