package key_test

import (
	"encoding/binary"
	"math"
	"math/rand/v2"
	"strings"
	"testing"

	"pandect/key"
)

// most is how many bytes a name may have.
const most = 16

func lot(seed int) *rand.Rand { return rand.New(rand.NewPCG(uint64(seed), 6)) }

// Two kinds of keys are made of a name and a number, four of a name alone.
type numbered struct {
	what string
	put  func(string, int64) []byte
	take func([]byte) (string, int64, bool)
}

func ofBoth() []numbered {
	return []numbered{{"Stream", key.Stream, key.TakeStream}, {"Type", key.Type, key.TakeType}}
}

type lettered struct {
	what   string
	letter string
	put    func(string) []byte
}

func ofNames() []lettered {
	return []lettered{{"Head", "h", key.Head}, {"ID", "i", key.ID}, {"Snap", "s", key.Snap}, {"Point", "p", key.Point}}
}

// eight is a number's bytes, the highest first.
func eight(n int64) string { return string(binary.BigEndian.AppendUint64(nil, uint64(n))) }

// laid is a key of a name and a number as the document tells it.
func laid(name string, n int64) string { return name + "\x00" + eight(n) }

// names are names that may be: the least and the longest, of each byte there
// is, and some of which one begins another.
func names() []string {
	out := []string{"a!", "a~", "ab", "abc", "b", "h", "hs", "i", "s", "p", "stream-1", "1234567890123456", "12345678"}
	for c := byte(33); c <= 126; c++ {
		out = append(out, string([]byte{c}), strings.Repeat(string([]byte{c}), most))
	}
	for n := 1; n <= most; n++ {
		out = append(out, strings.Repeat("n", n))
	}
	return out
}

// noNames are none: too short, too long, or of one byte that may not be, alone
// and in each place of the longest name.
func noNames() []string {
	out := []string{"", "12345678901234567", strings.Repeat("n", 255), strings.Repeat("n", 256), strings.Repeat("n", 257), strings.Repeat("n", 1<<16+1), "ä", "\u2028", "a b", "a\n", "\ta", "a\x00"}
	for c := range 256 {
		if c >= 33 && c <= 126 {
			continue
		}
		one := string([]byte{byte(c)})
		out = append(out, one, "a"+one, one+"a")
		for i := range most {
			out = append(out, strings.Repeat("n", i)+one+strings.Repeat("n", most-1-i))
		}
	}
	return out
}

// numbers are from 0 on: the least, the greatest, those at which a byte turns,
// and some whose bytes look like a name's.
func numbers() []int64 {
	out := []int64{0, 2, 3, 100, 258, 0x6100, 0x6100000000000000, 0x0061000000000000, 0x6161616161616161, math.MaxInt64 - 1, math.MaxInt64}
	for i := range 63 {
		bit := int64(1) << i
		out = append(out, bit)
		if i%8 == 0 && i > 0 {
			out = append(out, bit-1, bit+1)
		}
	}
	return out
}

func noNumbers() []int64 {
	return []int64{-1, -2, -255, -256, -1 << 32, math.MinInt64, math.MinInt64 + 1}
}

// says: b is just these bytes.
func says(t *testing.T, what string, b []byte, want string) {
	t.Helper()
	if string(b) != want {
		t.Errorf("%s: %q, not %q", what, b, want)
	}
}

func (k numbered) takes(t *testing.T, b string, name string, n int64) {
	t.Helper()
	if gotName, gotN, ok := k.take([]byte(b)); gotName != name || gotN != n || !ok {
		t.Errorf("Take%s of %q: %q, %d, %v; not %q, %d", k.what, b, gotName, gotN, ok, name, n)
	}
}

// none: b is no such key, and nothing is told beside that.
func (k numbered) none(t *testing.T, b string) {
	t.Helper()
	if name, n, ok := k.take([]byte(b)); name != "" || n != 0 || ok {
		t.Errorf("Take%s of %q: %q, %d, %v", k.what, b, name, n, ok)
	}
}
