package console_test

import (
	"encoding/hex"
	"fmt"
	"reflect"
	"slices"
	"strconv"
	"strings"
	"testing"

	"campanile/api"
	"campanile/console"
	"campanile/frame"
)

// talk: lines, and what each tells.
func talk(t *testing.T, c *console.Console, lines ...string) {
	t.Helper()
	for i := 0; i < len(lines); i += 2 {
		if got := c.Line(lines[i]); got != lines[i+1] {
			t.Errorf("%d: %.60q: %q, not %q", i/2, lines[i], got, lines[i+1])
		}
	}
}

// inTime is a console whose nodes are all in time.
func inTime(t *testing.T) *console.Console {
	t.Helper()
	c := console.New()
	for range 10 {
		c.Line("slots 100")
	}
	talk(t, c, "asn", "1000", "rank 0", "0", "rank 1", "1", "rank 2", "1", "rank 3", "2", "rank 4", "3")
	return c
}

// Words: the first mesh.
func TestFirst(t *testing.T) {
	want := api.Config{Nodes: 5, Near: []uint64{6, 13, 11, 22, 8}, Hops: []int{11, 15, 20, 25}, Guard: 300, Error: 3, Keep: 20, Loss: 60, Queue: 8, Life: 10}
	got := console.First()
	if !reflect.DeepEqual(got, want) {
		t.Errorf("%+v", got)
	}
	got.Near[0], got.Hops[0] = 0, 0
	if !reflect.DeepEqual(console.First(), want) {
		t.Error("one memory")
	}
}

// Words: a new console, what it is asked.
func TestAsk(t *testing.T) {
	c := console.New()
	talk(t, c, "rank 0", "0", "rank 1", "255", "off 0", "0", "off 4", "0", "parents 0", "-", "parents 1", "-", "waiting 0", "0", "waiting 4", "0", "bound 0", "0", "bound 1", "-", "asn", "0",
		"slots 0", "ok", "asn", "0", "slots 7", "ok", "asn", "7", "slots 3 100", "ok", "asn", "10", "off 0", "0", "off 1", "3", "off 4", "3", "slots 5 -100", "ok", "off 2", "-2", "slots 1 0", "ok")
	if c.World().ASN() != 16 || c.World() != c.World() || c.World().Node(4) == nil || c.World().Node(5) != nil {
		t.Error("the world", c.World().ASN())
	}
	c = inTime(t)
	talk(t, c, "parents 4", "3", "parents 3", "1,2", "parents 1", "0", "parents 0", "-")
	for i := range 5 {
		n := c.World().Node(i)
		b, _ := c.World().Bound(i)
		talk(t, c, "rank "+strconv.Itoa(i), strconv.Itoa(n.Rank()), "off "+strconv.Itoa(i), strconv.FormatInt(n.Off(), 10), "bound "+strconv.Itoa(i), strconv.FormatInt(b, 10), "waiting "+strconv.Itoa(i), "0")
	}
	// one's own world: what is done to it is told
	c.World().Do(api.Step{Kind: api.SSend, I: 4, To: 0, Data: []byte("x")})
	talk(t, c, "waiting 4", "1")
	if console.New().World().ASN() != 0 {
		t.Error("one world")
	}
}

// Words: spaces, and nothing else, stand between words.
func TestWords(t *testing.T) {
	c := console.New()
	talk(t, c, "", "", " ", "", "     ", "", strings.Repeat(" ", 2000), "", "  asn  ", "0", "  slots   2  ", "ok", "asn\t", "error 3", "\tasn", "error 3", "asn\n", "error 3", "slots\t2", "error 3", "asn\u00a0", "error 3", "\x00", "error 3",
		strings.Repeat(" ", 1997)+"asn", "2", strings.Repeat(" ", 1998)+"asn", "error 3", strings.Repeat(" ", 2001), "error 3", strings.Repeat("a", 2000), "error 3", strings.Repeat("a", 5000), "error 3")
}

// Words: what is none of the lines; what is no number.
func TestForm(t *testing.T) {
	c := console.New()
	for _, s := range []string{
		"x", "ASN", "Slots 1", "slot 1", "asn 1", "slots", "slots 1 2 3", "slots x", "slots -1", "slots 501", "slots 1 101", "slots 1 -101", "slots 1 x", "slots 501 1", "slots 1 1 ok", "slots 01", "slots +1", "slots -0", "slots 1.0", "slots 0x1", "slots 1_0", "slots 9223372036854775808", "slots -9223372036854775809", "slots 99999999999999999999", "slots 1 00", "slots ١", "slots 1 +5",
		"deaf", "deaf 1", "deaf 1 2", "deaf 1 2 501", "deaf 1 2 -1", "deaf 1 2 x", "deaf x 2 1", "deaf 1 x 1", "deaf 1 2 3 4", "send", "send 1", "send 1 0", "send 1 0 a", "send 1 0 aab", "send 1 0 AA", "send 1 0 gg", "send 1 0 0x", "send 1 0 aa bb", "send x 0 aa", "send 1 x aa", "send 9 0 a", "send 9 0 zz", "send 01 0 aa", "send aa",
		"reboot", "reboot x", "reboot 1 2", "reboot 00", "inject", "inject 1", "inject 1 a", "inject 1 AA", "inject 1 zz", "inject x aa", "inject 1 aa bb", "inject 9 zz",
		"rank", "rank x", "rank 1 2", "rank 9223372036854775808", "off", "off x", "off 1 2", "parents", "parents x", "parents 1 2", "waiting", "waiting x", "waiting 1 2", "bound", "bound x", "bound 1 2", "bound -", "name", "name a b", "rank 01", "off +1",
	} {
		talk(t, c, s, "error 3")
	}
	talk(t, c, "asn", "0")
}

// Words: what is none of its nodes; other errors by their number.
func TestErrors(t *testing.T) {
	c := console.New()
	for _, word := range []string{"rank", "off", "parents", "waiting", "bound", "reboot"} {
		for _, node := range []string{"5", "-1", "64", "9223372036854775807", "-9223372036854775808"} {
			talk(t, c, word+" "+node, "error 6")
		}
	}
	talk(t, c, "deaf 5 0 1", "error 6", "deaf 0 5 1", "error 6", "deaf -1 0 1", "error 6", "deaf 0 9223372036854775807 1", "error 6", "deaf 5 0 501", "error 6", "deaf 0 5 -1", "error 6", "deaf 0 1 501", "error 3", "reboot 0", "error 1",
		"send 5 0 aa", "error 6", "send -1 0 aa", "error 6", "send 1 0 aa", "error 7", "send 1 1 aa", "error 1", "send 1 5 aa", "error 1", "send 0 1 aa", "error 6", "send 1 0 "+strings.Repeat("aa", 25), "error 1",
		"inject 5 aa", "error 6", "inject 5 "+strings.Repeat("aa", 201), "error 6", "inject 1 "+strings.Repeat("aa", 201), "error 1", "inject 1 "+strings.Repeat("aa", 200), "ok", "inject 0 00ff", "ok", "asn", "0")
	c = inTime(t)
	for range 8 {
		talk(t, c, "send 4 0 aa", "ok")
	}
	talk(t, c, "send 4 0 aa", "error 5", "waiting 4", "8")
}

// Words: names.
func TestName(t *testing.T) {
	talk(t, console.New(), "name a", "a", "name AbC9", "abc9", "name ΑΒς", "-", "name Ωα", "ωα", "name 9a", "-", "name a-b", "-", "name \xff", "-", "name abcdefghijklmnop", "abcdefghijklmnop", "name abcdefghijklmnopq", "-", "name  Z ", "z")
}

// Words: what steps tell.
func TestTells(t *testing.T) {
	c := console.New()
	var told strings.Builder
	for range 10 {
		told.WriteString(strings.TrimPrefix(c.Line("slots 100"), "ok"))
	}
	if s := told.String(); s != " sync,1,0 parent,1,0 sync,2,0 parent,2,0 sync,3,2 parent,3,2 parent,3,1 sync,4,3 parent,4,3" {
		t.Errorf("%q", s)
	}
	talk(t, c, "send 4 0 6869", "ok", "waiting 4", "1", "slots 40", "ok got,0,4,6869", "waiting 4", "0", "send 0 4 00ff", "ok", "slots 40", "ok got,4,0,00ff", "send 4 2 0a", "ok", "slots 40", "ok drop,0,3")
	talk(t, c, "reboot 3", "ok lost,3", "reboot 3", "ok", "rank 3", "255", "bound 3", "-", "slots 50", "ok", "slots 20", "ok lost,4 sync,3,2 parent,3,2")
	// an injected beacon is heard as one of node 2
	c = inTime(t)
	b, _ := frame.Encode(api.Frame{Kind: api.FBeacon, Src: 2, Dst: api.All, IEs: []api.IE{{Kind: api.ISync, ASN: 1000, Rank: 2}}})
	talk(t, c, "inject 4 "+hex.EncodeToString(b), "ok", "slots 1", "ok parent,4,2")
}

// Words: who is deaf, and to whom.
func TestDeaf(t *testing.T) {
	c := inTime(t)
	// node 4 hears node 3 alone
	talk(t, c, "deaf 4 3 0", "ok", "deaf 3 4 40", "ok", "rank 4", "3", "deaf 4 3 59", "ok lost,4", "asn", "1099", "rank 4", "255")
	c = inTime(t)
	talk(t, c, "deaf 4 2 100", "ok", "rank 4", "3", "deaf 4 4 100", "ok", "rank 4", "3")
	// its answers, too: what comes is not known to have come
	c = inTime(t)
	talk(t, c, "send 4 0 aa", "ok")
	told := c.Line("deaf 4 3 45")
	if told != "ok drop,3,5 got,0,4,aa drop,3,5 drop,3,5 drop,3,5 drop,3,5 drop,3,5 drop,3,5 drop,4,4" || c.Line("waiting 4") != "0" {
		t.Error(told, c.Line("waiting 4"))
	}
	// so many slots, and no more
	talk(t, c, "slots 500", "ok", "deaf 4 2 500", "ok", "slots 501", "error 3", "deaf 4 2 501", "error 3", "asn", "2045")
	// the drift is none
	c = console.New()
	talk(t, c, "slots 10 100", "ok", "deaf 1 2 10", "ok", "off 1", "10", "asn", "20")
}

// P26.2: a text of lines.
func TestRun(t *testing.T) {
	for in, want := range map[string]string{
		"": "", "\n": "", "\n\n \n": "", "asn": "0\n", "asn\n": "0\n", "rank 0\nrank 1": "0\n255\n", "rank 0\n\n   \nrank 1\n\n": "0\n255\n", "slots 3\nasn\nx\nasn\n": "ok\n3\nerror 3\n3\n", "asn\r\nasn": "error 3\n0\n", "asn\x00\nasn": "error 3\n0\n",
		strings.Repeat("a", 2001) + "\nasn": "error 3\n0\n", strings.Repeat(" ", 2001): "error 3\n",
	} {
		for range 2 { // each to a new console
			if got, err := console.Run([]byte(in)); got != want || err != api.OK {
				t.Errorf("%.30q: %q %d", in, got, err)
			}
		}
	}
	full := []byte(strings.Repeat("asn\n", 5000))
	if got, err := console.Run(full); got != strings.Repeat("0\n", 5000) || err != api.OK {
		t.Error(len(got), err)
	}
	if got, err := console.Run(append(full, '\n')); got != "" || err != api.ErrFull {
		t.Error(len(got), err)
	}
	if got, err := console.Run(nil); got != "" || err != api.OK {
		t.Error(got, err)
	}
}

// P26.1: nil.
func TestNil(t *testing.T) {
	var c *console.Console
	if c.Line("asn") != "" || c.Line(strings.Repeat(" ", 3000)) != "" || c.World() != nil {
		t.Error("a nil console has something")
	}
}

// P26.3: in a quiet air all come in time, and stay, and what is sent comes.
func TestQuiet(t *testing.T) {
	for _, drift := range []int{0, 40, -40} {
		c := console.New()
		slots := fmt.Sprintf("slots 100 %d", drift)
		for range 15 {
			c.Line(slots)
		}
		for i := range 5 {
			if !c.World().Node(i).Synced() {
				t.Fatal(drift, i)
			}
		}
		want := []string{}
		got := []string{}
		send := func(from, to int) {
			data := fmt.Sprintf("%02x%02x", from, to)
			if told := c.Line(fmt.Sprintf("send %d %d %s", from, to, data)); told != "ok" {
				t.Error(drift, from, to, told)
			}
			want = append(want, fmt.Sprintf("got,%d,%d,%s", to, from, data))
			for _, word := range strings.Fields(c.Line(slots))[1:] {
				if strings.HasPrefix(word, "got") {
					got = append(got, word)
				} else {
					t.Error(drift, word)
				}
			}
		}
		for from := 1; from < 5; from++ {
			send(from, 0)
		}
		for from := range 5 {
			for to := range 5 {
				if from != to {
					send(from, to)
				}
			}
		}
		if !slices.Equal(got, want) {
			t.Error(drift, got, want)
		}
		for i := range 5 {
			off, _ := strconv.Atoi(c.Line(fmt.Sprintf("off %d", i)))
			bound, err := strconv.Atoi(c.Line(fmt.Sprintf("bound %d", i)))
			if err != nil || off > bound || off < -bound {
				t.Error(drift, i, off, bound, err)
			}
		}
	}
}
