package event_test

import (
	"encoding/binary"
	"math"
	"math/rand/v2"
	"slices"
	"strings"
	"testing"

	"pandect/api"
	"pandect/event"
)

// How long a name and data may be at most.
const (
	mostName = 16
	mostData = 100
)

func lot(seed int) *rand.Rand { return rand.New(rand.NewPCG(uint64(seed), 7)) }

// drawn makes n bytes, the same ones each time.
func drawn(n int) []byte {
	l := lot(n)
	b := make([]byte, n)
	for i := range b {
		b[i] = byte(l.IntN(256))
	}
	return b
}

// eight is a number's bytes, the highest first.
func eight(n int64) string { return string(binary.BigEndian.AppendUint64(nil, uint64(n))) }

// text is a text's bytes behind how many there are.
func text(s string) string { return string([]byte{byte(len(s))}) + s }

// laid is what the document says of an event's bytes, whether it may be or not.
func laid(e api.Event) string {
	return eight(e.Seq) + eight(e.Version) + text(e.Stream) + text(e.Type) + text(string(e.Data))
}

// names are names that may be: the least and the longest, of each byte there is.
func names() []string {
	out := []string{"a!", "a~", "ab", "stream-1", "1234567890123456"}
	for c := byte(33); c <= 126; c++ {
		out = append(out, string([]byte{c}), strings.Repeat(string([]byte{c}), mostName))
	}
	for n := 1; n <= mostName; n++ {
		out = append(out, strings.Repeat("n", n))
	}
	return out
}

// noNames are none: too short, too long, or of one byte that may not be, alone
// and in each place of the longest name.
func noNames() []string {
	out := []string{"", "12345678901234567", strings.Repeat("n", 32), strings.Repeat("n", 255), strings.Repeat("n", 256), strings.Repeat("n", 257), strings.Repeat("n", 256+mostName), "ä", "\u2028", "a b", "a\n", "\ta", "a\x00"}
	for c := range 256 {
		if c >= 33 && c <= 126 {
			continue
		}
		one := string([]byte{byte(c)})
		out = append(out, one, "a"+one, one+"a")
		for i := range mostName {
			out = append(out, strings.Repeat("n", i)+one+strings.Repeat("n", mostName-1-i))
		}
	}
	return out
}

// numbers are from 0 on: the least, the greatest, and those at which a byte turns.
func numbers() []int64 {
	out := []int64{0, 2, 3, 100, 258, 0x0102030405060708, math.MaxInt64 - 1, math.MaxInt64}
	for i := range 63 {
		bit := int64(1) << i
		out = append(out, bit)
		if i%8 == 0 && i > 0 {
			out = append(out, bit-1, bit+1)
		}
	}
	return out
}

func noNumbers() []int64 {
	return []int64{-1, -2, -255, -256, -257, -1 << 32, math.MinInt64, math.MinInt64 + 1}
}

// some are events of all edges at once, that may be.
func some() []api.Event {
	out := []api.Event{
		{Seq: 1, Stream: "s", Version: 2, Type: "t", Data: []byte("d")},
		{Seq: 0, Stream: "a", Version: 0, Type: "a"},
		{Seq: math.MaxInt64, Stream: strings.Repeat("~", mostName), Version: math.MaxInt64, Type: strings.Repeat("!", mostName), Data: drawn(mostData)},
		{Seq: 258, Stream: "!", Version: 0x6161616161616161, Type: "1234567890123456", Data: make([]byte, mostData)},
		{Seq: 7, Stream: "1234567890123456", Version: 7, Type: "~", Data: []byte{0}},
		{Seq: 9, Stream: "same", Version: 9, Type: "same", Data: []byte("same")},
	}
	for i, n := range numbers() {
		out = append(out, api.Event{Seq: n, Stream: names()[i], Version: int64(i), Type: names()[2*i], Data: drawn(i)})
	}
	return out
}

// turned makes events of e, each with another thing in it that may not be.
func turned(e api.Event) []api.Event {
	var out []api.Event
	for _, n := range noNumbers() {
		seq, version := e, e
		seq.Seq, version.Version = n, n
		out = append(out, seq, version)
	}
	for _, s := range noNames() {
		stream, typed := e, e
		stream.Stream, typed.Type = s, s
		out = append(out, stream, typed)
	}
	for _, n := range []int{mostData + 1, mostData + 2, 127, 128, 200, 255, 256, 257, 256 + mostData, 1 << 16} {
		data := e
		data.Data = make([]byte, n)
		out = append(out, data)
	}
	return out
}

// may: e may be, its bytes are those of the document, and they are taken as e.
func may(t *testing.T, e api.Event) {
	t.Helper()
	if !event.May(e) {
		t.Errorf("%+v may not be", e)
	}
	b := event.Put(e)
	if string(b) != laid(e) {
		t.Errorf("%+v: %q, not %q", e, b, laid(e))
	}
	takes(t, laid(e), e)
}

func mayNot(t *testing.T, e api.Event) {
	t.Helper()
	if event.May(e) {
		t.Errorf("%+v may be", e)
	}
	if b := event.Put(e); len(b) != 0 {
		t.Errorf("%+v: %q", e, b)
	}
}

// alike holds two events against each other without Same.
func alike(a, b api.Event) bool {
	return a.Seq == b.Seq && a.Stream == b.Stream && a.Version == b.Version && a.Type == b.Type && slices.Equal(a.Data, b.Data)
}

func takes(t *testing.T, b string, want api.Event) {
	t.Helper()
	if e, no := event.Take([]byte(b)); no != api.OK || !alike(e, want) {
		t.Errorf("Take of %q: %+v, %d, not %+v", b, e, no, want)
	}
}

// none: b is no event's bytes, and nothing is told beside that.
func none(t *testing.T, b string) {
	t.Helper()
	noneOf(t, []byte(b))
}

func noneOf(t *testing.T, b []byte) {
	t.Helper()
	if e, no := event.Take(b); no != api.ErrForm || !alike(e, api.Event{}) || e.Data != nil {
		t.Errorf("Take of %q: %+v, %d", b, e, no)
	}
}
