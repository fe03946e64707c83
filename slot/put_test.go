package slot_test

import (
	"bytes"
	"encoding/binary"
	"hash/crc32"
	"slices"
	"testing"

	"pandect/api"
	"pandect/slot"
)

// A slot that was laid by hand: letters, generation, size, body, noughts, sum.
func TestP41Layout(t *testing.T) {
	b := put(t, 0x0102030405060708, []byte("what holds"))
	front := "PD\x01\x02\x03\x04\x05\x06\x07\x08\x0awhat holds" + string(make([]byte, 103))
	if len(b) != 128 || string(b[:124]) != front || binary.BigEndian.Uint32(b[124:]) != crc([]byte(front)) {
		t.Errorf("%x", b)
	}
	takes(t, b, 0x0102030405060708, []byte("what holds"))
}

// Letters, noughts and their sum are a slot: the least there is.
func TestP41OfNothing(t *testing.T) {
	for _, nothing := range [][]byte{nil, {}, []byte("not this")[:0]} {
		b := put(t, 0, nothing)
		if !bytes.Equal(b, whole(0, nil)) || string(b[:124]) != "PD"+string(make([]byte, 122)) {
			t.Errorf("%x", b)
		}
		takes(t, b, 0, nil)
	}
}

func TestP41EachLength(t *testing.T) {
	if api.Sector != 128 || api.Sector-15 != most {
		t.Fatal("the sectors are others than these tests'")
	}
	for n := range most + 1 {
		for _, body := range [][]byte{drawn(n), make([]byte, n), bytes.Repeat([]byte{255}, n)} {
			if b := put(t, uint64(n), body); !bytes.Equal(b, whole(uint64(n), body)) {
				t.Errorf("%d bytes: %x", n, b)
			}
			takes(t, whole(uint64(n), body), uint64(n), body)
		}
	}
}

func TestP41EachByteOfABody(t *testing.T) {
	for c := range 256 {
		body := []byte{byte(c)}
		if b := put(t, 1, body); !bytes.Equal(b, whole(1, body)) {
			t.Errorf("%x", b)
		}
		takes(t, whole(1, body), 1, body)
	}
}

func TestP41EachGen(t *testing.T) {
	for _, gen := range gens() {
		for _, body := range []string{"", "body"} {
			if b := put(t, gen, []byte(body)); !bytes.Equal(b, whole(gen, []byte(body))) {
				t.Errorf("%d: %x", gen, b)
			}
			takes(t, whole(gen, []byte(body)), gen, []byte(body))
		}
	}
}

// Lengths that a byte would not tell from one that may be are among these.
func TestP41LongerThanItMayBe(t *testing.T) {
	for _, n := range []int{most + 1, most + 2, 123, 124, 127, 128, 255, 256, 257, 256 + most, 512, 4096, 1 << 16, 1 << 22} {
		for _, gen := range []uint64{0, 1, 1<<64 - 1} {
			if b, e := slot.Put(gen, make([]byte, n)); e != api.ErrFull || len(b) != 0 {
				t.Errorf("%d bytes: %d bytes, %d", n, len(b), e)
			}
		}
	}
}

// A size that leads into the sum, or beyond the slot, whatever its sum says.
func TestP41SizesOfNoSlot(t *testing.T) {
	for size := range 256 {
		b := laid(128, "PD", 3, byte(size), nil)
		if size <= most {
			takes(t, b, 3, make([]byte, size))
		} else {
			none(t, b, "a size too great")
			none(t, laid(128, "PD", 3, byte(size), drawn(most)), "a size too great")
			none(t, laid(300, "PD", 3, byte(size), drawn(size)), "a size too great, in a longer one")
		}
	}
}

// Bytes behind the body are noughts, each of them.
func TestP41Noughts(t *testing.T) {
	for _, n := range []int{0, 1, 2, 50, most - 2, most - 1} {
		b := whole(4, drawn(n))
		for at := 11 + n; at < 124; at++ {
			for _, c := range []byte{1, 128, 255} {
				b[at] = c
				none(t, sealed(b), "no nought")
			}
			b[at] = 0
		}
		takes(t, sealed(b), 4, drawn(n))
	}
	// a byte of the body may be a nought, the last one too
	takes(t, whole(4, []byte("\x00a\x00")), 4, []byte("\x00a\x00"))
}

func TestP41Letters(t *testing.T) {
	for _, letters := range []string{"\x00\x00", "DP", "pd", "Pd", "pD", "PP", "DD", "P\x00", "\x00D", "PE", "QD", "  ", "\xff\xff"} {
		none(t, laid(128, letters, 1, 4, []byte("body")), "other letters")
	}
	takes(t, laid(128, "PD", 1, 4, []byte("body")), 1, []byte("body"))
}

func TestP41Length(t *testing.T) {
	for _, n := range []int{0, 1, most} {
		b := put(t, 6, drawn(n))
		for k := range b {
			none(t, slices.Clone(b[:k]), "cut off")
			none(t, b[:k], "cut off, the rest in the spare room")
			none(t, slices.Clone(b[k+1:]), "its end alone")
		}
		for _, behind := range [][]byte{{0}, {255}, make([]byte, 128), b, make([]byte, 5000)} {
			none(t, slices.Concat(b, behind), "longer")
			none(t, slices.Concat(behind, b), "something ahead of it")
		}
		takes(t, b, 6, drawn(n))
	}
	// others than Sector bytes are no slot with their sum at their own end either
	for n := 15; n < 300; n++ {
		if b := laid(n, "PD", 1, 0, nil); n == 128 {
			takes(t, b, 1, nil)
		} else {
			none(t, b, "another length, with its sum")
		}
	}
}

func TestP41AnotherSum(t *testing.T) {
	for _, body := range []string{"", "a body", string(drawn(most))} {
		front := put(t, 9, []byte(body))[:124]
		s := crc(front)
		for _, wrong := range []uint32{0, s + 1, s - 1, ^s, crc([]byte(body)), crc(front[:11+min(len(body), most-1)]), crc(front[2:]), crc32.ChecksumIEEE(front)} {
			none(t, binary.BigEndian.AppendUint32(slices.Clone(front), wrong), "another sum")
		}
		none(t, binary.LittleEndian.AppendUint32(slices.Clone(front), s), "the lowest byte first")
		takes(t, binary.BigEndian.AppendUint32(slices.Clone(front), s), 9, []byte(body))
	}
}

// A sum of 0 has to be there as any other one.
func TestP41ASumOfNought(t *testing.T) {
	b := whole(0x02b7d189, []byte("body"))
	if !bytes.HasSuffix(b, make([]byte, 4)) {
		t.Fatalf("its sum is not 0: %x", b)
	}
	takes(t, b, 0x02b7d189, []byte("body"))
	none(t, b[:124], "no sum")
}

func TestP41ATurnedBitIsTold(t *testing.T) {
	for _, n := range []int{0, 1, 50, most} {
		b := put(t, 0xF0F0F0F0F0F0F0F0, drawn(n))
		for i := range 8 * len(b) {
			b[i/8] ^= 1 << (i % 8)
			none(t, b, "a bit is turned")
			b[i/8] ^= 1 << (i % 8)
		}
		takes(t, b, 0xF0F0F0F0F0F0F0F0, drawn(n))
	}
}
