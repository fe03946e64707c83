package node_test

import (
	"strings"
	"testing"

	"pandect/api"
	"pandect/node"
)

// What follows: what is put is taken.
func TestP9WhatIsPutIsTaken(t *testing.T) {
	for _, n := range some() {
		b := node.Put(n)
		took, e := node.Take(b)
		if e != api.OK || !alike(took, n) || !node.Same(took, n) || string(node.Put(took)) != string(b) {
			t.Errorf("%v was taken as %v, %d", n, took, e)
		}
	}
}

func TestP91TakeOfWhatMayNotBe(t *testing.T) {
	none(t, []byte(laid(api.Node{})))
	none(t, []byte(laid(api.Node{Leaf: true})))
	none(t, []byte(laid(innerOf("a"))))
	none(t, []byte(laid(longestLeaf())+text([]byte("\xff\xff"))+text(nil)))
	for _, n := range some() {
		for _, other := range turned(n) {
			none(t, []byte(laid(other)))
		}
	}
}

// Each number of items and of kids, whatever its byte says.
func TestP91TakeOfHowMany(t *testing.T) {
	for many := range 256 {
		for _, more := range []int{-1, 0, 1, 256 - fan} {
			var items, kids strings.Builder
			for i := range max(many+more, 0) {
				key := text([]byte{byte(i >> 8), byte(i)})
				items.WriteString(key + text(drawn(i%3)))
				kids.WriteString(key + eight(uint64(i+1)) + eight(uint64(i+1)))
			}
			how := string([]byte{byte(many)})
			leaf, inner := asPlain(t, []byte("L"+how+items.String())), asPlain(t, []byte("N"+how+kids.String()))
			if want := more == 0 && many <= fan; leaf != (want && many >= 1) || inner != (want && many >= 2) {
				t.Errorf("%d and %d: %v, %v", many, more, leaf, inner)
			}
		}
	}
}

// L and N alone tell which one it is.
func TestP91TakeOfEachLetter(t *testing.T) {
	for _, n := range some() {
		b := []byte(laid(n))
		was := b[0]
		for c := range 256 {
			b[0] = byte(c)
			if b[0] == was {
				takes(t, b, n)
			} else {
				none(t, b)
			}
		}
	}
}

// What ends too soon is none, whatever stands in the spare room.
func TestP91TakeOfWhatIsCut(t *testing.T) {
	none(t, nil)
	none(t, []byte{})
	for _, n := range some() {
		b := []byte(laid(n))
		for k := range b {
			none(t, b[:k])
			none(t, b[:k:k])
		}
	}
}

func TestP91TakeOfWhatIsCutAtTheFront(t *testing.T) {
	for _, n := range some() {
		b := []byte(laid(n))
		for k := 1; k < len(b); k++ {
			asPlain(t, b[k:])
		}
	}
}

func TestP91TakeOfWhatIsLonger(t *testing.T) {
	for _, n := range some() {
		b := laid(n)
		for c := range 256 {
			none(t, []byte(b+string([]byte{byte(c)})))
		}
		for _, more := range []string{"\x00\x00", b, b[2:], strings.Repeat("\x00", 5000), text([]byte("more"))} {
			none(t, []byte(b+more))
		}
	}
}

// Each other byte in each place: among them each other length of each text,
// which moves what stands behind it.
func TestP91TakeOfATurnedByte(t *testing.T) {
	for _, n := range some()[:12] {
		b := []byte(laid(n))
		for i, was := range b {
			for c := range 256 {
				b[i] = byte(c)
				asPlain(t, b)
			}
			b[i] = was
		}
	}
}

// A turned bit is taken as what it says, if that may be.
func TestP91TakeOfATurnedBit(t *testing.T) {
	for _, n := range some() {
		b := []byte(laid(n))
		for i := range 8 * len(b) {
			b[i/8] ^= 1 << (i % 8)
			asPlain(t, b)
			b[i/8] ^= 1 << (i % 8)
		}
	}
}

// The highest bit of a number turned: an Off below nought, a Count of too many.
func TestP91TakeOfGreatNumbers(t *testing.T) {
	for _, n := range some() {
		for i := range n.Kids {
			none(t, []byte(laid(with(n, func(n *api.Node) { n.Kids[i].Off = -n.Kids[i].Off }))))
			none(t, []byte(laid(with(n, func(n *api.Node) { n.Kids[i].Count |= 1 << 63 }))))
		}
	}
}

// Two texts behind a letter and how many: only a key and what lies under it.
func TestP91TakeOfEachLengthOfTexts(t *testing.T) {
	for size := range 256 {
		for _, other := range []int{0, 1, mostKey, mostKey + 1, mostVal, mostVal + 1, 255} {
			for _, sizes := range [][2]int{{size, other}, {other, size}} {
				b := []byte("L\x01" + text(drawn(sizes[0])) + text(drawn(sizes[1])))
				want := sizes[0] >= 1 && sizes[0] <= mostKey && sizes[1] <= mostVal
				if asPlain(t, b) != want {
					t.Errorf("%v: not %v", sizes, want)
				}
			}
		}
	}
}

func TestP91TakeOfNoughts(t *testing.T) {
	for n := range 3000 {
		for _, c := range []string{"\x00", "\x01", "\x02", "\x08", "\xff", "L", "N"} {
			none(t, []byte(strings.Repeat(c, n)))
		}
	}
}

// Nodes that are drawn, and then spoiled a little or not.
func TestP91TakeAsThePlainOne(t *testing.T) {
	l, all, took := lot(1), some(), 0
	for range 20000 {
		b := []byte(laid(all[l.IntN(len(all))]))
		if l.IntN(3) == 0 {
			b[l.IntN(len(b))] ^= 1 << l.IntN(8)
		}
		if l.IntN(3) == 0 {
			b[l.IntN(len(b))] = byte(l.IntN(mostKey))
		}
		if l.IntN(6) == 0 {
			b = append(b, make([]byte, l.IntN(3))...)
		}
		if l.IntN(6) == 0 {
			b = b[:len(b)-l.IntN(3)]
		}
		if asPlain(t, b) {
			took++
		}
	}
	if took < 2000 || took > 18000 {
		t.Errorf("%d of them were nodes", took)
	}
}
