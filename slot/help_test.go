package slot_test

import (
	"bytes"
	"encoding/binary"
	"hash/crc32"
	"math/rand/v2"
	"testing"

	"pandect/api"
	"pandect/slot"
)

// most is how long a body may be.
const most = 113

func lot(seed int) *rand.Rand { return rand.New(rand.NewPCG(uint64(seed), 4)) }

// drawn makes n bytes, the same ones each time, none of them a nought: what is
// lost of them is told from what stands behind.
func drawn(n int) []byte {
	l := lot(n)
	b := make([]byte, n)
	for i := range b {
		b[i] = byte(1 + l.IntN(255))
	}
	return b
}

// crc is the sum told by the library.
func crc(b []byte) uint32 { return crc32.Checksum(b, crc32.MakeTable(crc32.Castagnoli)) }

// sealed is b with a sum that is right in its last four bytes.
func sealed(b []byte) []byte {
	b = bytes.Clone(b)
	ahead := len(b) - 4
	binary.BigEndian.PutUint32(b[ahead:], crc(b[:ahead]))
	return b
}

// laid lays n bytes as a slot's parts, with a sum that is right, whatever
// letters, size and n say.
func laid(n int, letters string, gen uint64, size byte, body []byte) []byte {
	b := binary.BigEndian.AppendUint64([]byte(letters), gen)
	b = append(append(b, size), body...)
	return sealed(append(b, make([]byte, n-len(b))...))
}

// whole is a slot as the document tells it.
func whole(gen uint64, body []byte) []byte {
	return laid(128, "PD", gen, byte(len(body)), body)
}

// gens are generations at which a byte or the highest bit turns, or that are
// the least and the greatest, rising.
func gens() []uint64 {
	out := []uint64{0}
	for i := range 64 {
		bit := uint64(1) << i
		if i == 0 {
			out = append(out, bit)
		} else if i%8 == 0 || i == 63 {
			out = append(out, bit-1, bit, bit+1)
		}
	}
	return append(out, 1<<64-2, 1<<64-1)
}

func put(t *testing.T, gen uint64, body []byte) []byte {
	t.Helper()
	b, e := slot.Put(gen, body)
	if e != api.OK {
		t.Fatalf("%d bytes: it tells %d", len(body), e)
	}
	return b
}

func takes(t *testing.T, b []byte, gen uint64, body []byte) {
	t.Helper()
	gotGen, gotBody, e := slot.Take(b)
	if gotGen != gen || !bytes.Equal(gotBody, body) || e != api.OK {
		t.Errorf("%x: %d, %.20q, %d; not %d, %.20q", b, gotGen, gotBody, e, gen, body)
	}
}

// none: b is no slot, and nothing is told beside that.
func none(t *testing.T, b []byte, why string) {
	t.Helper()
	gen, body, e := slot.Take(b)
	if gen != 0 || len(body) != 0 || e != api.ErrForm {
		t.Errorf("%s: %x: %d, %.20q, %d", why, b, gen, body, e)
	}
}

func better(t *testing.T, a, b []byte, which int, gen uint64, body string) {
	t.Helper()
	gotWhich, gotGen, gotBody, e := slot.Better(a, b)
	if gotWhich != which || gotGen != gen || string(gotBody) != body || e != api.OK {
		t.Errorf("%x, %x: %d, %d, %.20q, %d; not %d, %d, %.20q", a, b, gotWhich, gotGen, gotBody, e, which, gen, body)
	}
}

// neither: none of the two is a slot, and nothing is told beside that.
func neither(t *testing.T, a, b []byte, why string) {
	t.Helper()
	which, gen, body, e := slot.Better(a, b)
	if which != 0 || gen != 0 || len(body) != 0 || e != api.ErrForm {
		t.Errorf("%s: %x, %x: %d, %d, %.20q, %d", why, a, b, which, gen, body, e)
	}
}

// spoiled makes many things of a slot that are none any more.
func spoiled(b []byte) map[string][]byte {
	turned, turnedSum, letters, behind := bytes.Clone(b), bytes.Clone(b), bytes.Clone(b), bytes.Clone(b)
	turned[5] ^= 1
	turnedSum[127] ^= 128
	letters[0] = 'p'
	behind[123] ^= 1
	return map[string][]byte{
		"nothing":              nil,
		"no bytes":             {},
		"noughts":              make([]byte, 128),
		"ones":                 bytes.Repeat([]byte{255}, 128),
		"cut off":              bytes.Clone(b[:127]),
		"cut off, spare room":  b[:127],
		"longer":               append(bytes.Clone(b), 0),
		"twice":                append(bytes.Clone(b), b...),
		"a bit is turned":      turned,
		"a bit of its sum is":  turnedSum,
		"other letters":        sealed(letters),
		"a byte behind a body": sealed(behind),
	}
}
