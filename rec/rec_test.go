package rec_test

import (
	"bytes"
	"encoding/binary"
	"hash/crc32"
	"math/rand/v2"
	"slices"
	"strings"
	"testing"

	"pandect/api"
	"pandect/rec"
)

func lot(seed int) *rand.Rand { return rand.New(rand.NewPCG(uint64(seed), 3)) }

// drawn makes n bytes, the same ones each time.
func drawn(n int) []byte {
	l := lot(n)
	b := make([]byte, n)
	for i := range b {
		b[i] = byte(l.IntN(256))
	}
	return b
}

// crc is the sum told by the library.
func crc(b []byte) uint32 { return crc32.Checksum(b, crc32.MakeTable(crc32.Castagnoli)) }

// laid lays a record's parts one behind the other, with a sum that is right,
// whatever the size says.
func laid(size uint32, kind byte, body []byte) []byte {
	b := binary.BigEndian.AppendUint32(nil, size)
	b = append(b, kind)
	b = append(b, body...)
	return binary.BigEndian.AppendUint32(b, crc(b))
}

func put(t *testing.T, kind byte, body []byte) []byte {
	t.Helper()
	b, e := rec.Put(kind, body)
	if e != api.OK {
		t.Fatalf("%d bytes: it tells %d", len(body), e)
	}
	return b
}

func takes(t *testing.T, b []byte, kind byte, body []byte, n int) {
	t.Helper()
	gotKind, gotBody, gotN, e := rec.Take(b)
	if gotKind != kind || !bytes.Equal(gotBody, body) || gotN != n || e != api.OK {
		t.Errorf("%d bytes, %.20q: kind %d, %d bytes of body, %d in all, %d; not kind %d, %d, %d", len(b), b, gotKind, len(gotBody), gotN, e, kind, len(body), n)
	}
}

// none: there is no record at b's front, and nothing is told beside that.
func none(t *testing.T, b []byte, why string) {
	t.Helper()
	kind, body, n, e := rec.Take(b)
	if kind != 0 || len(body) != 0 || n != 0 || e != api.ErrForm {
		t.Errorf("%s: %d bytes, %.20q: %d, %.20q, %d, %d", why, len(b), b, kind, body, n, e)
	}
}

// edges are lengths of bodies at which a byte of the length turns, or that are
// the least and the greatest.
func edges() []int {
	return []int{0, 1, 2, 4, 5, 127, 128, 255, 256, 257, 511, 512, 4095, api.MaxBody}
}

func TestP31Example(t *testing.T) {
	for _, nothing := range [][]byte{nil, {}, []byte("not this")[:0]} {
		b := put(t, 1, nothing)
		if len(b) != 9 || !bytes.Equal(b, laid(0, 1, nil)) {
			t.Errorf("%x", b)
		}
		takes(t, b, 1, nil, 9)
	}
}

// A record that was laid by hand: length, kind, body and sum, the highest byte
// of each first. 0xE3069283 is known as the sum of 123456789.
func TestP31Layout(t *testing.T) {
	b := put(t, 0xAB, []byte("123456789"))
	front := "\x00\x00\x00\x09\xAB123456789"
	if len(b) != 18 || string(b[:14]) != front || binary.BigEndian.Uint32(b[14:]) != crc([]byte(front)) {
		t.Errorf("%x", b)
	}
	b = put(t, 0, make([]byte, 0x0102))
	if !bytes.HasPrefix(b, []byte{0, 0, 1, 2, 0}) || len(b) != 9+0x0102 {
		t.Errorf("%d bytes, %x", len(b), b[:5])
	}
	b = put(t, 255, make([]byte, 0x1000))
	if !bytes.HasPrefix(b, []byte{0, 0, 0x10, 0, 255}) || len(b) != 9+0x1000 {
		t.Errorf("%d bytes, %x", len(b), b[:5])
	}
}

func TestP31EachLength(t *testing.T) {
	for n := range api.MaxBody + 1 {
		body := drawn(n)
		want := laid(uint32(n), byte(n), body)
		if b := put(t, byte(n), body); !bytes.Equal(b, want) {
			t.Fatalf("%d bytes: %x .. %x", n, b[:5], b[len(b)-4:])
		}
		takes(t, want, byte(n), body, n+9)
	}
}

func TestP31EachKind(t *testing.T) {
	for kind := range 256 {
		for _, body := range []string{"", "\x00", "body"} {
			b := put(t, byte(kind), []byte(body))
			if !bytes.Equal(b, laid(uint32(len(body)), byte(kind), []byte(body))) {
				t.Errorf("%d, %q: %x", kind, body, b)
			}
			takes(t, b, byte(kind), []byte(body), len(body)+9)
		}
	}
}

func TestP31LongerThanMaxBody(t *testing.T) {
	for _, n := range []int{api.MaxBody + 1, api.MaxBody + 2, 2 * api.MaxBody, 1 << 16, 1<<16 + 1, 1 << 22} {
		if b, e := rec.Put(1, make([]byte, n)); e != api.ErrFull || len(b) != 0 {
			t.Errorf("%d bytes: %d bytes, %d", n, len(b), e)
		}
		none(t, laid(uint32(n), 1, make([]byte, n)), "longer, with its sum")
	}
}

// A length alone stops it, however far beyond what is there it goes.
func TestP31LengthsOfNoRecord(t *testing.T) {
	for _, size := range []uint32{api.MaxBody + 1, 1 << 16, 1 << 24, 1<<31 - 10, 1<<31 - 1, 1 << 31, 1<<32 - 9, 1<<32 - 5, 1<<32 - 4, 1<<32 - 1} {
		for _, n := range []int{0, 1, 9, 100, 5000} {
			none(t, laid(size, 1, make([]byte, n)), "a length too great")
		}
	}
	for _, size := range []uint32{0, 1, 2, 4, 6, 7, 100, api.MaxBody} {
		none(t, laid(size, 1, []byte("fives")), "another length")
		none(t, append(laid(size, 1, []byte("fives")), make([]byte, 5000)...), "another length, much behind")
	}
}

func TestP31EndsTooSoon(t *testing.T) {
	none(t, nil, "nothing")
	none(t, []byte{}, "nothing")
	for _, n := range edges() {
		b := put(t, 1, drawn(n))
		for k := range b {
			none(t, slices.Clone(b[:k]), "cut off")
			// what lies in the spare room is not there
			none(t, b[:k], "cut off, the rest in the spare room")
		}
		takes(t, b, 1, drawn(n), len(b))
	}
}

// Noughts, as they stand where nothing was written, are no record.
func TestP31Noughts(t *testing.T) {
	for _, n := range []int{1, 4, 5, 8, 9, 10, 128, 5000} {
		none(t, make([]byte, n), "noughts")
		none(t, bytes.Repeat([]byte{255}, n), "ones")
	}
}

// A sum of 0 has to be there as any other one.
func TestP31ASumOfNought(t *testing.T) {
	body := []byte("A\x0fsb")
	b := laid(4, 1, body)
	if !bytes.HasSuffix(b, make([]byte, 4)) {
		t.Fatalf("its sum is not 0: %x", b)
	}
	takes(t, b, 1, body, 13)
	for k := range b {
		none(t, b[:k], "cut off")
	}
}

func TestP31AnotherSum(t *testing.T) {
	for _, body := range []string{"", "b", "a body"} {
		b := put(t, 9, []byte(body))
		front := b[:len(b)-4]
		for _, wrong := range []uint32{0, crc(front) + 1, crc(front) - 1, ^crc(front), crc([]byte(body)), crc(front[4:]), crc32.ChecksumIEEE(front)} {
			none(t, binary.BigEndian.AppendUint32(slices.Clone(front), wrong), "another sum")
		}
		none(t, binary.LittleEndian.AppendUint32(slices.Clone(front), crc(front)), "the lowest byte first")
	}
}

func TestP31ATurnedBitIsTold(t *testing.T) {
	for _, n := range edges() {
		b := append(put(t, 5, drawn(n)), drawn(30)...)
		for i := range 8 * (n + 9) {
			b[i/8] ^= 1 << (i % 8)
			none(t, b, "a bit is turned")
			b[i/8] ^= 1 << (i % 8)
		}
		takes(t, b, 5, drawn(n), n+9)
	}
}

// What follows: what is put is taken, whatever stands behind.
func TestP3WhateverStandsBehind(t *testing.T) {
	other := put(t, 77, []byte("another record"))
	for _, n := range edges() {
		body := drawn(n)
		b := put(t, byte(n), body)
		for _, behind := range [][]byte{nil, {0}, {255}, make([]byte, 5000), bytes.Repeat([]byte{255}, 5000), b, other, other[:7], drawn(128)} {
			takes(t, slices.Concat(b, behind), byte(n), body, n+9)
		}
	}
}

// n leads from one record to the next.
func TestP3OneBehindTheOther(t *testing.T) {
	var b []byte
	for i, n := range edges() {
		b = append(b, put(t, byte(i), drawn(n))...)
	}
	at := 0
	for i, n := range edges() {
		takes(t, b[at:], byte(i), drawn(n), n+9)
		at += n + 9
	}
	if at != len(b) {
		t.Errorf("%d of %d bytes", at, len(b))
	}
	none(t, b[at:], "behind the last one")
}

// plain takes a record as the document tells it, another way: it puts what
// may stand there and looks whether b begins so.
func plain(b []byte) (kind byte, body string, n int, e api.Errno) {
	if len(b) < 9 {
		return 0, "", 0, api.ErrForm
	}
	size := uint64(b[0])<<24 + uint64(b[1])<<16 + uint64(b[2])<<8 + uint64(b[3])
	if size > 4096 || size+9 > uint64(len(b)) || !strings.HasPrefix(string(b), string(laid(uint32(size), b[4], b[5:5+size]))) {
		return 0, "", 0, api.ErrForm
	}
	return b[4], string(b[5 : 5+size]), int(size) + 9, api.OK
}

// draw makes bytes that are a record now and then, and nearly one else.
func draw(l *rand.Rand) []byte {
	body := make([]byte, l.IntN(l.IntN(300)+1))
	size := uint32(len(body))
	if l.IntN(3) == 0 {
		size += uint32(l.IntN(5)) - 2
	}
	b := append(laid(size, byte(l.IntN(256)), body), make([]byte, l.IntN(4))...)
	if l.IntN(3) == 0 {
		b[l.IntN(len(b))] ^= byte(l.IntN(256))
	}
	if l.IntN(3) == 0 {
		b = b[:l.IntN(len(b)+1)]
	}
	return b
}

func TestP3AsThePlainOne(t *testing.T) {
	l, took := lot(1), 0
	for i := range 20000 {
		b := draw(l)
		kind, body, n, e := rec.Take(b)
		wantKind, wantBody, wantN, want := plain(b)
		if kind != wantKind || string(body) != wantBody || n != wantN || e != want {
			t.Fatalf("%d: %x: %d, %q, %d, %d; not %d, %q, %d, %d", i, b, kind, body, n, e, wantKind, wantBody, wantN, want)
		}
		if e == api.OK {
			took++
		}
	}
	if took < 1000 || took > 19000 {
		t.Errorf("%d of them were records", took)
	}
}

func TestR3WhatIsHandedInStays(t *testing.T) {
	room := []byte("in and spare room")
	put(t, 1, room[:2])
	put(t, 1, room[:2:2])
	if string(room) != "in and spare room" {
		t.Errorf("Put changed %q", room)
	}
	room = append(put(t, 1, []byte("in")), "spare room"...)
	was := string(room)
	rec.Take(room[:11])
	rec.Take(room[:10])
	if string(room) != was {
		t.Errorf("Take changed %q", room)
	}
}

func TestR3NothingIsShared(t *testing.T) {
	in := []byte("body")
	b := put(t, 1, in)
	in[0] = '#'
	again := put(t, 1, []byte("body"))
	if !bytes.Equal(b, again) {
		t.Errorf("Put kept what was handed in: %q", b)
	}
	_ = append(b, "####"...)
	b[0] = '#'
	if !bytes.Equal(again, laid(4, 1, []byte("body"))) {
		t.Errorf("Put kept what was told: %q", again)
	}

	_, body, _, _ := rec.Take(again)
	_, other, _, _ := rec.Take(again)
	again[5] = '#'
	if string(body) != "body" || string(other) != "body" {
		t.Errorf("Take kept what was handed in: %q, %q", body, other)
	}
	again[5] = 'b'
	body[0] = '#'
	_ = append(body, "####"...)
	if string(other) != "body" || !bytes.Equal(again, laid(4, 1, []byte("body"))) {
		t.Errorf("Take told what is not new: %q, %q", other, again)
	}
}

// A body of nothing leads to no byte of what was handed in either.
func TestR3TheBodyOfNothing(t *testing.T) {
	b := append(put(t, 1, nil), "behind"...)
	was := string(b)
	_, body, _, _ := rec.Take(b)
	_ = append(body, "####"...)
	if string(b) != was {
		t.Errorf("%q", b)
	}
}

// An answer hangs on the bytes alone, not on what was asked ahead.
func TestR4Same(t *testing.T) {
	whole := put(t, 3, []byte("whole"))
	for range 3 {
		none(t, whole[:13], "cut off")
		takes(t, whole, 3, []byte("whole"), 14)
		rec.Put(4, make([]byte, 5000))
		if b := put(t, 3, []byte("whole")); !bytes.Equal(b, whole) {
			t.Errorf("%x, not %x", b, whole)
		}
	}
}
