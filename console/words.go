package console

import (
	"strconv"
	"strings"

	"campanile/api"
)

const (
	digits = "0123456789abcdef"
	space  = " "
	comma  = ","
)

// split is the words of s: only a space stands between them.
func split(s string) []string {
	var out []string
	for word := range strings.SplitSeq(s, space) {
		if word != "" {
			out = append(out, word)
		}
	}
	return out
}

// numbers is the words as numbers, if all of them are.
func numbers(words []string) ([]int, bool) {
	out := make([]int, len(words))
	for i, word := range words {
		n, err := strconv.ParseInt(word, 10, 64)
		// a number has one form alone: no plus, no needless nought
		if err != nil || strconv.FormatInt(n, 10) != word {
			return nil, false
		}
		out[i] = int(n)
	}
	return out, true
}

func slotsMay(n int) bool { return n >= 0 && n <= mostSlots }

// unhex is the bytes of a word.
func unhex(word string) ([]byte, bool) {
	if len(word)%2 != 0 {
		return nil, false
	}
	out := make([]byte, len(word)/2)
	for i := range word {
		digit := strings.IndexByte(digits, word[i])
		if digit < 0 {
			return nil, false
		}
		out[i/2] = out[i/2]<<4 | byte(digit)
	}
	return out, true
}

func hex(b []byte) string {
	var out strings.Builder
	for _, x := range b {
		out.WriteByte(digits[x>>4])
		out.WriteByte(digits[x&15])
	}
	return out.String()
}

// list is numbers with a comma between; if there is none, a dash.
func list(l []int) string {
	if len(l) == 0 {
		return nothing
	}
	words := make([]string, len(l))
	for i, n := range l {
		words[i] = strconv.Itoa(n)
	}
	return strings.Join(words, comma)
}

// tell writes an event, with a space ahead; what is heard and moved all the time isn't told.
func tell(out *strings.Builder, e api.Event) {
	node, src := strconv.Itoa(e.I), strconv.Itoa(e.Src)
	var words []string
	switch e.Kind {
	case api.ESynced:
		words = []string{"sync", node, src}
	case api.ELost:
		words = []string{"lost", node}
	case api.EParent:
		words = []string{"parent", node, src}
	case api.EGot:
		words = []string{"got", node, strconv.Itoa(e.Packet.From), hex(e.Packet.Data)}
	case api.EDropped:
		words = []string{"drop", node, strconv.Itoa(e.Code)}
	default:
		return
	}
	out.WriteString(space)
	out.WriteString(strings.Join(words, comma))
}
