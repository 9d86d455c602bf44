package clock_test

import (
	"math/rand"
	"testing"

	"campanile/clock"
)

func want(t *testing.T, c *clock.Clock, off, slots int64) {
	t.Helper()
	if c.Off() != off || c.Slots() != slots {
		t.Errorf("off by %d in %d slots, not %d in %d", c.Off(), c.Slots(), off, slots)
	}
}

func run(c *clock.Clock, n, ppm int) {
	for range n {
		c.Slot(ppm)
	}
}

// P4.1: what drifts, by the sum, down.
func TestSlot(t *testing.T) {
	c := clock.New()
	want(t, c, 0, 0)
	run(c, 1, 50)
	want(t, c, 0, 1)
	run(c, 1, 50)
	want(t, c, 1, 2)
	run(c, 1, -100)
	want(t, c, 0, 3)
	run(c, 1, -1)
	want(t, c, -1, 4)
	run(c, 99, -1)
	want(t, c, -1, 103)
	run(c, 1, -1)
	want(t, c, -2, 104)
	run(c, 5, 0)
	want(t, c, -2, 109)
}

// P4.1: a speed that may not be is cut.
func TestSpeed(t *testing.T) {
	for _, x := range []struct {
		ppm int
		off int64
	}{{100, 10}, {101, 10}, {1<<63 - 1, 10}, {-100, -10}, {-101, -10}, {-1 << 63, -10}, {99, 9}, {-99, -10}} {
		c := clock.New()
		run(c, 10, x.ppm)
		want(t, c, x.off, 10)
	}
}

// P4.2: put, and the sum is 0.
func TestPut(t *testing.T) {
	c := clock.New()
	run(c, 3, 50)
	c.Put(7)
	want(t, c, 7, 3)
	run(c, 1, 50)
	want(t, c, 7, 4)
	run(c, 1, 50)
	want(t, c, 8, 5)
	for _, x := range [][2]int64{{1e12, 1e12}, {1e12 + 1, 1e12}, {1<<63 - 1, 1e12}, {-1e12, -1e12}, {-1e12 - 1, -1e12}, {-1 << 63, -1e12}, {0, 0}} {
		c.Put(x[0])
		want(t, c, x[1], 5)
	}
}

// P4.2: moved, and the sum stays.
func TestMove(t *testing.T) {
	c := clock.New()
	run(c, 1, 50)
	c.Move(-3)
	want(t, c, -3, 1)
	run(c, 1, 50)
	want(t, c, -2, 2)
	for _, x := range [][2]int64{{1e6, 1e6}, {1e6 + 1, 1e6}, {1<<63 - 1, 1e6}, {-1e6, -1e6}, {-1e6 - 1, -1e6}, {-1 << 63, -1e6}} {
		c.Put(0)
		c.Move(int(x[0]))
		want(t, c, x[1], 2)
	}
	c.Put(1e12 - 5)
	c.Move(6)
	want(t, c, 1e12, 2)
	run(c, 1, 100)
	c.Move(1)
	want(t, c, 1e12+1, 3)
	c.Move(-2)
	want(t, c, 1e12-1, 3)
	c.Put(-1e12 + 5)
	c.Move(-6)
	want(t, c, -1e12, 3)
}

// P4.1, P4.2: nil.
func TestNil(t *testing.T) {
	var c *clock.Clock
	c.Slot(1)
	c.Put(1)
	c.Move(1)
	want(t, c, 0, 0)
}

// P4.3: a tick a slot at most; half of the speed is half of the way.
func TestWay(t *testing.T) {
	rnd := rand.New(rand.NewSource(4))
	for range 50 {
		c := clock.New()
		c.Put(rnd.Int63n(1000))
		at := c.Off()
		n := int64(rnd.Intn(500))
		for range n {
			c.Slot(rnd.Intn(301) - 150)
		}
		if d := c.Off() - at; d > n || d < -n {
			t.Fatalf("%d in %d slots", d, n)
		}
	}
	for ppm := -100; ppm <= 100; ppm += 2 {
		a, b := clock.New(), clock.New()
		run(a, 1000, ppm)
		run(b, 1000, ppm/2)
		if a.Off() != 2*b.Off() {
			t.Errorf("%d: %d %d", ppm, a.Off(), b.Off())
		}
	}
}
