package node_test

import (
	"bytes"
	"encoding/binary"
	"io"
	"math"
	"math/rand/v2"
	"slices"
	"strings"
	"testing"

	"pandect/api"
	"pandect/node"
)

// How many a node may have, how long a key and what lies under it may be, and how
// many items may lie under a kid, at most.
const (
	fan       = 8
	mostKey   = 40
	mostVal   = 120
	mostUnder = 1 << 40
)

func lot(seed int) *rand.Rand { return rand.New(rand.NewPCG(uint64(seed), 9)) }

// drawn makes n bytes, the same ones each time.
func drawn(n int) []byte {
	l := lot(n)
	b := make([]byte, n)
	for i := range b {
		b[i] = byte(l.IntN(256))
	}
	return b
}

func item(key, val string) api.Item { return api.Item{Key: []byte(key), Val: []byte(val)} }

func leaf(items ...api.Item) api.Node { return api.Node{Leaf: true, Items: items} }

// leafOf and innerOf are nodes of just these keys.
func leafOf(keys ...string) api.Node {
	n := api.Node{Leaf: true}
	for i, key := range keys {
		n.Items = append(n.Items, item(key, string(drawn(i))))
	}
	return n
}

func innerOf(keys ...string) api.Node {
	var n api.Node
	for i, key := range keys {
		n.Keys = append(n.Keys, []byte(key))
		n.Kids = append(n.Kids, api.Ref{Off: int64(256 + i), Count: uint64(4 + i)})
	}
	return n
}

// keys are n keys that rise, each of size bytes.
func keys(n, size int) []string {
	var out []string
	for i := range n {
		out = append(out, strings.Repeat(string([]byte{byte(7 + 31*i)}), size))
	}
	return out
}

// copied is n in memory of its own.
func copied(n api.Node) api.Node {
	out := api.Node{Leaf: n.Leaf, Kids: slices.Clone(n.Kids)}
	for _, i := range n.Items {
		out.Items = append(out.Items, api.Item{Key: bytes.Clone(i.Key), Val: bytes.Clone(i.Val)})
	}
	for _, key := range n.Keys {
		out.Keys = append(out.Keys, bytes.Clone(key))
	}
	return out
}

// with is n with something done to a copy of it.
func with(n api.Node, do func(n *api.Node)) api.Node {
	n = copied(n)
	do(&n)
	return n
}

// eight is a number's bytes, the highest first.
func eight(n uint64) string { return string(binary.BigEndian.AppendUint64(nil, n)) }

// text is a text's bytes behind how many there are.
func text(b []byte) string { return string([]byte{byte(len(b))}) + string(b) }

// laid is what the document says of a node's bytes, whether it may be or not.
func laid(n api.Node) string {
	var s strings.Builder
	if n.Leaf {
		s.WriteString("L" + string([]byte{byte(len(n.Items))}))
		for _, i := range n.Items {
			s.WriteString(text(i.Key) + text(i.Val))
		}
		return s.String()
	}
	s.WriteString("N" + string([]byte{byte(len(n.Kids))}))
	for i, kid := range n.Kids {
		s.WriteString(text(n.Keys[i]) + eight(uint64(kid.Off)) + eight(kid.Count))
	}
	return s.String()
}

// plain takes a node as the document tells it, another way.
func plain(b []byte) (api.Node, bool) {
	r, is := bytes.NewReader(b), true
	one := func() int {
		c, e := r.ReadByte()
		is = is && e == nil
		return int(c)
	}
	bytesOf := func(most int) []byte {
		n := one()
		out := make([]byte, n)
		_, e := io.ReadFull(r, out)
		is = is && e == nil && n <= most
		return out
	}
	n, letter, many, last := api.Node{}, one(), one(), ""
	for range many {
		key := bytesOf(mostKey)
		is = is && last < string(key)
		last = string(key)
		if letter == 'L' {
			n.Items = append(n.Items, api.Item{Key: key, Val: bytesOf(mostVal)})
			continue
		}
		var kid api.Ref
		is = is && binary.Read(r, binary.BigEndian, &kid) == nil && kid.Off > 0 && kid.Count-1 < mostUnder
		n.Keys, n.Kids = append(n.Keys, key), append(n.Kids, kid)
	}
	n.Leaf = letter == 'L'
	if !is || r.Len() > 0 || many > fan || many < 1 || letter != 'L' && (letter != 'N' || many < 2) {
		return api.Node{}, false
	}
	return n, true
}

// alike holds two nodes against each other without Same.
func alike(a, b api.Node) bool {
	same := a.Leaf == b.Leaf && len(a.Items) == len(b.Items) && len(a.Keys) == len(b.Keys) && slices.Equal(a.Kids, b.Kids)
	for i := 0; same && i < len(a.Items); i++ {
		same = string(a.Items[i].Key) == string(b.Items[i].Key) && string(a.Items[i].Val) == string(b.Items[i].Val)
	}
	for i := 0; same && i < len(a.Keys); i++ {
		same = string(a.Keys[i]) == string(b.Keys[i])
	}
	return same
}

// offs and counts are those that a kid may have: the least, the greatest, and
// those at which a byte turns.
func offs() []int64 {
	out := []int64{3, 256, 258, 0x0102030405060708, math.MaxInt64 - 1, math.MaxInt64}
	for i := range 63 {
		out = append(out, 1<<i)
		if i%8 == 0 && i > 0 {
			out = append(out, 1<<i-1, 1<<i+1)
		}
	}
	return out
}

func counts() []uint64 {
	out := []uint64{3, 258, 0x0102030405, mostUnder - 1, mostUnder}
	for i := range 40 {
		out = append(out, 1<<i)
		if i%8 == 0 && i > 0 {
			out = append(out, 1<<i-1, 1<<i+1)
		}
	}
	return out
}

func noOffs() []int64 {
	return []int64{0, -1, -2, -255, -256, -257, -1 << 32, math.MinInt64, math.MinInt64 + 1}
}

func noCounts() []uint64 {
	out := []uint64{0, mostUnder + 1, mostUnder + 2, mostUnder + 256, 3 << 39, math.MaxUint64, math.MaxUint64 - 1, math.MaxInt64}
	for i := 41; i < 64; i++ {
		out = append(out, 1<<i, 1<<i+1, 1<<i+mostUnder)
	}
	return out
}

// some are nodes of all edges at once, that may be.
func some() []api.Node {
	out := []api.Node{
		leaf(item("k", "v")),
		leaf(item("a", ""), item("ab", "xy")),
		leaf(item("\x00", "\x00"), item("\x00\x00", ""), item("\x7f", "L"), item("\x80", "N"), item("\xff", "\xff"), item("\xff\x00", "same"), item("\xff\xff", "same")),
		innerOf("a", "c"),
		innerOf("\x00", "\x00\x00", "\x7f", "\x80", "\xff", "\xff\x00", "\xff\xff"),
		{Keys: [][]byte{{1}, {2}, {3}}, Kids: []api.Ref{{Off: math.MaxInt64, Count: mostUnder}, {Off: 1, Count: 1}, {Off: 1, Count: 1}}},
	}
	for n := 1; n <= fan; n++ {
		for _, size := range []int{1, 2, 3, mostKey - 1, mostKey} {
			rising := keys(n, size)
			out = append(out, leafOf(rising...))
			if n >= 2 {
				out = append(out, innerOf(rising...))
			}
		}
	}
	return append(out, longestLeaf(), longestInner())
}

func longestLeaf() api.Node {
	n := leafOf(keys(fan, mostKey)...)
	for i := range n.Items {
		n.Items[i].Val = drawn(mostVal)
	}
	return n
}

func longestInner() api.Node {
	n := innerOf(keys(fan, mostKey)...)
	for i := range n.Kids {
		n.Kids[i] = api.Ref{Off: math.MaxInt64 - int64(i), Count: mostUnder - uint64(i)}
	}
	return n
}

// turned makes nodes of n, each with another thing in it that may not be, in
// each place.
func turned(n api.Node) []api.Node {
	var out []api.Node
	set := func(do func(n *api.Node)) { out = append(out, with(n, do)) }
	for i := range n.Items {
		for _, key := range noKeys() {
			set(func(n *api.Node) { n.Items[i].Key = key })
		}
		for _, size := range []int{mostVal + 1, mostVal + 2, 127, 128, 255} {
			set(func(n *api.Node) { n.Items[i].Val = drawn(size) })
		}
		for j := range i {
			set(func(n *api.Node) { n.Items[i].Key = n.Items[j].Key })
			set(func(n *api.Node) { n.Items[i], n.Items[j] = n.Items[j], n.Items[i] })
		}
	}
	for i := range n.Keys {
		for _, key := range noKeys() {
			set(func(n *api.Node) { n.Keys[i] = key })
		}
		for j := range i {
			set(func(n *api.Node) { n.Keys[i] = n.Keys[j] })
			set(func(n *api.Node) { n.Keys[i], n.Keys[j] = n.Keys[j], n.Keys[i] })
		}
	}
	for i := range n.Kids {
		for _, off := range noOffs() {
			set(func(n *api.Node) { n.Kids[i].Off = off })
		}
		for _, count := range noCounts() {
			set(func(n *api.Node) { n.Kids[i].Count = count })
		}
	}
	return out
}

func noKeys() [][]byte {
	out := [][]byte{nil, {}}
	for _, n := range []int{mostKey + 1, mostKey + 2, 64, 127, 128, 255} {
		out = append(out, drawn(n))
	}
	return out
}

// may: n may be, its bytes are those of the document, and they are taken as n.
func may(t *testing.T, n api.Node) {
	t.Helper()
	if !node.May(n) {
		t.Errorf("%v may not be", n)
	}
	b := node.Put(n)
	if string(b) != laid(n) {
		t.Errorf("%v: %q, not %q", n, b, laid(n))
	}
	takes(t, []byte(laid(n)), n)
}

func mayNot(t *testing.T, n api.Node) {
	t.Helper()
	if node.May(n) {
		t.Errorf("%v may be", n)
	}
	if b := node.Put(n); len(b) != 0 {
		t.Errorf("%v: %q", n, b)
	}
}

func takes(t *testing.T, b []byte, want api.Node) {
	t.Helper()
	if n, e := node.Take(b); e != api.OK || !alike(n, want) {
		t.Errorf("Take of %q: %v, %d, not %v", b, n, e, want)
	}
}

// none: b is no node's bytes, and nothing is told beside that.
func none(t *testing.T, b []byte) {
	t.Helper()
	if n, e := node.Take(b); e != api.ErrForm || !alike(n, api.Node{}) {
		t.Errorf("Take of %q: %v, %d", b, n, e)
	}
}

// asPlain: Take tells what the plainer one does; and whether it took it.
func asPlain(t *testing.T, b []byte) bool {
	t.Helper()
	want, is := plain(b)
	if is {
		takes(t, b, want)
	} else {
		none(t, b)
	}
	return is
}
