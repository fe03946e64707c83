package sum_test

import (
	"bytes"
	"hash/crc32"
	"math/rand/v2"
	"strings"
	"sync"
	"testing"

	"pandect/sum"
)

// plain is the sum told as the document tells it, one bit after the other.
func plain(b []byte) uint32 {
	register := uint32(0xFFFFFFFF)
	for _, c := range b {
		for i := range 8 {
			bit, out := uint32(c)>>i&1, register&1
			register >>= 1
			if out != bit {
				register ^= 0x82F63B78
			}
		}
	}
	return register ^ 0xFFFFFFFF
}

// drawn makes n bytes, the same ones each time.
func drawn(n int) []byte {
	l := rand.New(rand.NewPCG(uint64(n), 2))
	b := make([]byte, n)
	for i := range b {
		b[i] = byte(l.IntN(256))
	}
	return b
}

func tells(t *testing.T, b []byte, want uint32) {
	t.Helper()
	if got := sum.Sum(b); got != want {
		t.Errorf("%d bytes, %.40q: %08x, not %08x", len(b), b, got, want)
	}
}

// counted makes 32 bytes from first on, by steps.
func counted(first, step int) []byte {
	b := make([]byte, 32)
	for i := range b {
		b[i] = byte(first + i*step)
	}
	return b
}

func TestP21Example(t *testing.T) {
	tells(t, nil, 0)
	tells(t, []byte{}, 0)
	tells(t, []byte("nothing of this")[:0], 0)
}

// Sums that are known of CRC-32C from elsewhere.
func TestP21KnownSums(t *testing.T) {
	for s, want := range map[string]uint32{
		"a":         0xC1D04330,
		"abc":       0x364B3FB7,
		"123456789": 0xE3069283,
		"The quick brown fox jumps over the lazy dog": 0x22620404,
	} {
		tells(t, []byte(s), want)
	}
	tells(t, counted(0, 0), 0x8A9136AA)
	tells(t, counted(255, 0), 0x62A8AB43)
	tells(t, counted(0, 1), 0x46DD794E)
	tells(t, counted(31, -1), 0x113FDB5C)
}

// Each byte there is, alone, and behind another one.
func TestP21EachByte(t *testing.T) {
	for c := range 256 {
		tells(t, []byte{byte(c)}, plain([]byte{byte(c)}))
		for d := range 256 {
			b := []byte{byte(c), byte(d)}
			tells(t, b, plain(b))
		}
	}
}

func TestP21AsThePlainSum(t *testing.T) {
	other := crc32.MakeTable(crc32.Castagnoli)
	for n := range 700 {
		b := drawn(n)
		tells(t, b, plain(b))
		tells(t, b, crc32.Checksum(b, other))
	}
	for _, n := range []int{4096, 4101, 1<<16 - 1, 1 << 16, 1 << 22} {
		b := drawn(n)
		tells(t, b, crc32.Checksum(b, other))
	}
}

// Noughts count, wherever they stand: a sum tells how many there are.
func TestP21Noughts(t *testing.T) {
	seen := map[uint32]int{}
	for n := range 5000 {
		s := sum.Sum(make([]byte, n))
		if m, is := seen[s]; is {
			t.Fatalf("%d noughts as %d: %08x", n, m, s)
		}
		seen[s] = n
	}
	if sum.Sum([]byte("\x00a")) == sum.Sum([]byte("a")) || sum.Sum([]byte("a\x00")) == sum.Sum([]byte("a")) {
		t.Error("a nought is not told")
	}
}

// What follows: a bit that is turned is told.
func TestP21ATurnedBitIsTold(t *testing.T) {
	for _, n := range []int{1, 2, 3, 4, 5, 8, 9, 100, 128, 4101} {
		for _, b := range [][]byte{drawn(n), make([]byte, n), bytes.Repeat([]byte{255}, n)} {
			was := sum.Sum(b)
			for i := range 8 * n {
				b[i/8] ^= 1 << (i % 8)
				if sum.Sum(b) == was {
					t.Fatalf("%d bytes: bit %d is not told", n, i)
				}
				b[i/8] ^= 1 << (i % 8)
			}
			tells(t, b, was)
		}
	}
}

func TestR3WhatIsHandedInStays(t *testing.T) {
	room := "in and spare room"
	b := []byte(room)
	was := sum.Sum(b[:2:4])
	if string(b) != room {
		t.Errorf("what was handed in is changed: %q", b)
	}
	tells(t, b[:2], was)
	tells(t, []byte("in"), was)
	b[0] = '#'
	tells(t, []byte("in"), was)
}

// A sum hangs on the bytes alone: not on what was summed ahead or beside it.
func TestR4Same(t *testing.T) {
	texts := []string{"", "a", "\x00", "\xff", strings.Repeat("long", 1000)}
	var wait sync.WaitGroup
	for range 8 {
		wait.Go(func() {
			for i := range 200 {
				b := []byte(texts[i%len(texts)])
				if got := sum.Sum(b); got != plain(b) {
					t.Errorf("%.8q: %08x", b, got)
				}
			}
		})
	}
	wait.Wait()
}
