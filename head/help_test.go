package head_test

import (
	"bytes"
	"encoding/binary"
	"math"
	"math/rand/v2"
	"slices"
	"testing"

	"pandect/api"
	"pandect/head"
)

// How many bytes data may have, and how many a commit's count may be.
const (
	mostData  = 100
	mostCount = 65535
)

func lot(seed int) *rand.Rand { return rand.New(rand.NewPCG(uint64(seed), 8)) }

// drawn makes n bytes, the same ones each time.
func drawn(n int) []byte {
	l := lot(n)
	b := make([]byte, n)
	for i := range b {
		b[i] = byte(l.IntN(256))
	}
	return b
}

// eight, two and one are a number's bytes, the highest first: one's is 0 or 1.
func eight(n int64) string { return string(binary.BigEndian.AppendUint64(nil, uint64(n))) }
func two(n int) string     { return string(binary.BigEndian.AppendUint16(nil, uint16(n))) }

func one(is bool) string {
	if is {
		return "\x01"
	}
	return "\x00"
}

// A kind is one of the four things that the package has bytes for.
type kind[T any] struct {
	what  string
	put   func(T) []byte
	take  func([]byte) (T, api.Errno)
	laid  func(T) string // what the document says of the bytes, whether it may be or not
	plain func([]byte) (T, bool)
	alike func(a, b T) bool
	some  []T // of all edges, that may be
	not   []T // that may not be
}

// anyKind lets each test of bytes go over all four.
type anyKind interface {
	name() string
	bytes() []string    // of things that may be
	notBytes() []string // of things that may not be
	isPut(t *testing.T)
	isNotPut(t *testing.T)
	isNone(t *testing.T, b []byte)
	asPlain(t *testing.T, b []byte) bool
	keepsNothing(t *testing.T)
}

func kinds() []anyKind { return []anyKind{heads(), dones(), marks(), offs()} }

func (k kind[T]) name() string { return k.what }

func (k kind[T]) bytes() []string    { return each(k.some, k.laid) }
func (k kind[T]) notBytes() []string { return each(k.not, k.laid) }

func each[T any](things []T, laid func(T) string) []string {
	var out []string
	for _, thing := range things {
		out = append(out, laid(thing))
	}
	return out
}

// may: the thing's bytes are those of the document, and it is taken from them.
func (k kind[T]) may(t *testing.T, thing T) {
	t.Helper()
	b := k.put(thing)
	if string(b) != k.laid(thing) {
		t.Errorf("Put%s of %+v: %q, not %q", k.what, thing, b, k.laid(thing))
	}
	k.takes(t, []byte(k.laid(thing)), thing)
}

func (k kind[T]) mayNot(t *testing.T, thing T) {
	t.Helper()
	if b := k.put(thing); len(b) != 0 {
		t.Errorf("Put%s of %+v: %q", k.what, thing, b)
	}
}

func (k kind[T]) takes(t *testing.T, b []byte, want T) {
	t.Helper()
	if thing, e := k.take(b); e != api.OK || !k.alike(thing, want) {
		t.Errorf("Take%s of %q: %+v, %d, not %+v", k.what, b, thing, e, want)
	}
}

// isNone: b is no such thing's bytes, and nothing is told beside that.
func (k kind[T]) isNone(t *testing.T, b []byte) {
	t.Helper()
	var none T
	if thing, e := k.take(b); e != api.ErrForm || !k.alike(thing, none) {
		t.Errorf("Take%s of %q: %+v, %d", k.what, b, thing, e)
	}
}

func (k kind[T]) isPut(t *testing.T) {
	t.Helper()
	for _, thing := range k.some {
		k.may(t, thing)
	}
}

func (k kind[T]) isNotPut(t *testing.T) {
	t.Helper()
	for _, thing := range k.not {
		k.mayNot(t, thing)
	}
}

// asPlain: Take tells what the plainer one does; and whether it took it.
func (k kind[T]) asPlain(t *testing.T, b []byte) bool {
	t.Helper()
	want, is := k.plain(b)
	if is {
		k.takes(t, b, want)
	} else {
		k.isNone(t, b)
	}
	return is
}

// fields reads what is of fixed size from just b into to, which points to a struct.
func fields(b []byte, to any) bool {
	return len(b) == binary.Size(to) && binary.Read(bytes.NewReader(b), binary.BigEndian, to) == nil
}

func same[T comparable](a, b T) bool { return a == b }

func heads() kind[api.Head] {
	k := kind[api.Head]{what: "Head", put: head.PutHead, take: head.TakeHead, alike: same[api.Head]}
	k.laid = func(h api.Head) string { return eight(h.Next) + eight(h.First) + one(h.Tomb) }
	k.plain = func(b []byte) (api.Head, bool) {
		var f struct {
			Next, First int64
			Tomb        byte
		}
		if !fields(b, &f) || f.First < 0 || f.First > f.Next || f.Tomb > 1 {
			return api.Head{}, false
		}
		return api.Head{Next: f.Next, First: f.First, Tomb: f.Tomb > 0}, true
	}
	for _, n := range numbers() {
		for _, tomb := range []bool{false, true} {
			k.some = append(k.some, api.Head{Next: n, Tomb: tomb}, api.Head{Next: n, First: n, Tomb: tomb}, api.Head{Next: n, First: n / 3, Tomb: tomb}, api.Head{Next: math.MaxInt64, First: n, Tomb: tomb})
			if n > 0 {
				k.not = append(k.not, api.Head{First: n, Tomb: tomb}, api.Head{Next: n - 1, First: n, Tomb: tomb}, api.Head{Next: n / 2, First: n, Tomb: tomb})
			}
			for _, no := range noNumbers() {
				k.not = append(k.not, api.Head{Next: n, First: no, Tomb: tomb}, api.Head{Next: no, First: n, Tomb: tomb}, api.Head{Next: no, First: no, Tomb: tomb})
			}
		}
	}
	return k
}

func dones() kind[api.Done] {
	k := kind[api.Done]{what: "Done", put: head.PutDone, take: head.TakeDone, alike: same[api.Done]}
	k.laid = func(d api.Done) string { return eight(d.First) + two(d.Count) }
	k.plain = func(b []byte) (api.Done, bool) {
		var f struct {
			First int64
			Count uint16
		}
		if !fields(b, &f) || f.First < 0 || f.Count == 0 {
			return api.Done{}, false
		}
		return api.Done{First: f.First, Count: int(f.Count)}, true
	}
	for _, n := range numbers() {
		for _, c := range []int{1, 2, 20, 255, 256, 257, 258, 0x1000, 32767, 32768, mostCount - 1, mostCount} {
			k.some = append(k.some, api.Done{First: n, Count: c})
			k.not = append(k.not, api.Done{First: n, Count: c, Again: true})
		}
		k.not = append(k.not, api.Done{First: n}, api.Done{First: n, Again: true})
		for _, no := range noNumbers() {
			k.not = append(k.not, api.Done{First: no, Count: 1}, api.Done{First: no, Count: mostCount})
		}
	}
	return k
}

func marks() kind[api.Mark] {
	k := kind[api.Mark]{what: "Mark", put: head.PutMark, take: head.TakeMark}
	k.alike = func(a, b api.Mark) bool { return a.At == b.At && slices.Equal(a.Data, b.Data) }
	k.laid = func(m api.Mark) string { return eight(m.At) + string(m.Data) }
	k.plain = func(b []byte) (api.Mark, bool) {
		var at int64
		if len(b) < 8 || len(b) > 8+mostData || !fields(b[:8], &at) || at < 0 {
			return api.Mark{}, false
		}
		return api.Mark{At: at, Data: b[8:]}, true
	}
	for i, n := range numbers() {
		k.some = append(k.some, api.Mark{At: n}, api.Mark{At: n, Data: drawn(i)}, api.Mark{At: n, Data: make([]byte, mostData)})
		k.not = append(k.not, api.Mark{At: n, Data: drawn(mostData + 1)}, api.Mark{At: n, Data: drawn(256 + i)})
		for _, no := range noNumbers() {
			k.not = append(k.not, api.Mark{At: no}, api.Mark{At: no, Data: drawn(i)})
		}
	}
	return k
}

func offs() kind[int64] {
	k := kind[int64]{what: "Off", put: head.PutOff, take: head.TakeOff, alike: same[int64], laid: eight, some: numbers(), not: noNumbers()}
	k.plain = func(b []byte) (int64, bool) {
		var off int64
		if !fields(b, &off) || off < 0 {
			return 0, false
		}
		return off, true
	}
	return k
}

// numbers are from 0 on: the least, the greatest, and those at which a byte turns.
func numbers() []int64 {
	out := []int64{0, 2, 3, 100, 258, 0x0102030405060708, math.MaxInt64 - 1, math.MaxInt64}
	for i := range 63 {
		bit := int64(1) << i
		out = append(out, bit)
		if i%8 == 0 && i > 0 {
			out = append(out, bit-1, bit+1)
		}
	}
	return out
}

func noNumbers() []int64 {
	return []int64{-1, -2, -255, -256, -257, -1 << 32, math.MinInt64, math.MinInt64 + 1}
}
