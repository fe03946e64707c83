package rank_test

import (
	"encoding/binary"
	"fmt"
	"math/rand/v2"
	"slices"
	"strings"
	"testing"

	"pandect/api"
	"pandect/disk"
	"pandect/file"
	"pandect/node"
	"pandect/rank"
)

// How many a node may have and must have, how long a key and what lies under it may
// be, where records begin, what is ahead of a record's body, and what kind a node's
// are of.
const (
	fan      = 8
	least    = 4
	mostKey  = 40
	mostVal  = 120
	slots    = 256
	ahead    = 5
	nodeKind = 2
)

func lot(seed int) *rand.Rand { return rand.New(rand.NewPCG(uint64(seed), 15)) }

// fresh makes a file "f" on a disk of its own.
func fresh(t *testing.T) (*disk.Disk, *file.File) {
	t.Helper()
	d := disk.New(1 << 25)
	f, e := file.Create(d, "f")
	fine(t, e)
	return d, f
}

func fine(t *testing.T, e api.Errno) {
	t.Helper()
	if e != api.OK {
		t.Fatalf("it tells %d", e)
	}
}

// A branch is a node that is to be laid, with all that lies under it. What it says
// of its kids need not be so.
type branch struct {
	kind  byte
	items []api.Item
	keys  []string
	kids  []*branch
	off   map[int]int64 // how much more than it is the Off of a kid is said to be
	count map[int]int64 // and its Count
	at    api.Ref       // where it was laid
}

func (b *branch) isLeaf() bool { return len(b.kids) == 0 }

// laid is what the document says of a node's bytes, whether it may be or not.
func laid(n api.Node) string {
	var s strings.Builder
	text := func(b []byte) { s.WriteString(string([]byte{byte(len(b))}) + string(b)) }
	s.WriteString(map[bool]string{true: "L", false: "N"}[n.Leaf])
	s.WriteByte(byte(len(n.Items) + len(n.Kids)))
	for _, i := range n.Items {
		text(i.Key)
		text(i.Val)
	}
	for i, kid := range n.Kids {
		text(n.Keys[i])
		binary.Write(&s, binary.BigEndian, kid)
	}
	return s.String()
}

// lay writes b and all that lies under it.
func lay(t *testing.T, f *file.File, b *branch) api.Ref {
	t.Helper()
	n := api.Node{Leaf: b.isLeaf(), Items: b.items}
	for i, kid := range b.kids {
		r := lay(t, f, kid)
		n.Keys = append(n.Keys, []byte(b.keys[i]))
		n.Kids = append(n.Kids, api.Ref{Off: r.Off + b.off[i], Count: r.Count + uint64(b.count[i])})
	}
	at, e := f.Append(b.kind, []byte(laid(n)))
	fine(t, e)
	b.at = api.Ref{Off: at, Count: node.Count(n)}
	return b.at
}

func item(key, val string) api.Item { return api.Item{Key: []byte(key), Val: []byte(val)} }

// val is what lies under a key, of a tree whose maker says nothing else of it: of
// some nothing, of some the most.
func val(key string) string {
	n := 0
	for _, c := range []byte(key) {
		n = n*31 + int(c)
	}
	switch n % 7 {
	case 0:
		return ""
	case 1:
		return (strings.Repeat("v", mostVal) + key)[len(key):]
	}
	return "v" + key
}

func leafOf(keys ...string) *branch {
	b := &branch{kind: nodeKind}
	for _, key := range keys {
		b.items = append(b.items, item(key, val(key)))
	}
	return b
}

// letters is a leaf of a letter each.
func letters(s string) *branch { return leafOf(strings.Split(s, "")...) }

// over is an inner node that says of each kid what it is.
func over(kids ...*branch) *branch {
	b := &branch{kind: nodeKind, kids: kids}
	for _, kid := range kids {
		b.keys = append(b.keys, string(kid.under()[0].Key))
	}
	return b
}

// spaced are n keys from the first on, each two apart, so that there is room between.
func spaced(first byte, n int) []string {
	var keys []string
	for i := range n {
		keys = append(keys, string([]byte{first + byte(2*i)}))
	}
	return keys
}

// under are all items in b, from its first kid to its last.
func (b *branch) under() []api.Item {
	items := slices.Clone(b.items)
	for _, kid := range b.kids {
		items = append(items, kid.under()...)
	}
	return items
}

// all are b and all that lies under it.
func (b *branch) all() []*branch {
	out := []*branch{b}
	for _, kid := range b.kids {
		out = append(out, kid.all()...)
	}
	return out
}

func power(n, high int) int {
	out := 1
	for range high {
		out *= n
	}
	return out
}

// drawnKeys are n keys that rise, of few letters, so that some begin as others do.
func drawnKeys(l *rand.Rand, n int) []string {
	seen := map[string]bool{}
	for len(seen) < n {
		var b []byte
		for range 1 + l.IntN(6) {
			b = append(b, "\x00ab\xff"[l.IntN(4)])
		}
		seen[string(b)] = true
	}
	var keys []string
	for key := range seen {
		keys = append(keys, key)
	}
	slices.Sort(keys)
	return keys
}

// grown is a right tree so high of these keys, of which there have to be as many as
// it may have; how they are parted is drawn.
func grown(l *rand.Rand, keys []string, high, fewest int) *branch {
	if high == 1 {
		return leafOf(keys...)
	}
	lo, hi := power(least, high-1), power(fan, high-1)
	kids := max(fewest, (len(keys)+hi-1)/hi)
	kids += l.IntN(min(fan, len(keys)/lo) - kids + 1)
	var out []*branch
	for left := kids; left > 0; left-- {
		from, to := max(lo, len(keys)-(left-1)*hi), min(hi, len(keys)-(left-1)*lo)
		n := from + l.IntN(to-from+1)
		out = append(out, grown(l, keys[:n], high-1, least))
		keys = keys[n:]
	}
	return over(out...)
}

// drawn is a right tree that is drawn, of no more than most items if it may be so few.
func drawn(l *rand.Rand, high, most int) *branch {
	from, to := 1, fan
	if high > 1 {
		from, to = 2*power(least, high-1), power(fan, high)
	}
	return grown(l, drawnKeys(l, from+l.IntN(max(min(to, most)-from, 0)+1)), high, 2)
}

// An ask is what one of the three calls is asked for, but for the tree.
type ask struct {
	call     string // "below" (to), "at" (i), "between" (from, to)
	from, to string
	i        uint64
}

func below(key string) ask        { return ask{call: "below", to: key} }
func at(i uint64) ask             { return ask{call: "at", i: i} }
func between(from, to string) ask { return ask{call: "between", from: from, to: to} }

// An answer is all that a call answers, which of them it may be.
type answer struct {
	n        uint64
	key, val string
	ok       bool
	e        api.Errno
}

func (a ask) of(f *file.File, r api.Ref) answer {
	switch a.call {
	case "below":
		n, e := rank.Below(f, r, []byte(a.to))
		return answer{n: n, e: e}
	case "at":
		i, ok, e := rank.At(f, r, a.i)
		return answer{key: string(i.Key), val: string(i.Val), ok: ok, e: e}
	}
	n, e := rank.Between(f, r, []byte(a.from), []byte(a.to))
	return answer{n: n, e: e}
}

// has tells whether a key is one that is to be counted.
func (a ask) has(key string) bool {
	return key >= a.from && (key < a.to || a.to == "" && a.call == "between")
}

// plain is what is promised of a, of a tree of these items.
func (a ask) plain(items []api.Item) answer {
	if a.call == "at" {
		if a.i >= uint64(len(items)) {
			return answer{}
		}
		return answer{key: string(items[a.i].Key), val: string(items[a.i].Val), ok: true}
	}
	var out answer
	for _, i := range items {
		if a.has(string(i.Key)) {
			out.n++
		}
	}
	return out
}

// pairs are all asks with these bounds.
func pairs(bounds []string) []ask {
	var out []ask
	for _, from := range bounds {
		out = append(out, below(from))
		for _, to := range bounds {
			out = append(out, between(from, to))
		}
	}
	return out
}

// places ask for the i-th of each i below n, and for some that lie far behind.
func places(n int) []ask {
	var out []ask
	for i := range uint64(n) {
		out = append(out, at(i))
	}
	return append(out, at(1<<31), at(1<<32), at(1<<32+1), at(1<<40), at(1<<63-1), at(1<<63), at(1<<64-1))
}

func told(items []api.Item) string {
	var s strings.Builder
	for _, i := range items {
		fmt.Fprintf(&s, "%q:%q ", i.Key, i.Val)
	}
	return s.String()
}

// tells: of the tree r, whose items these are, a is answered as is promised.
func tells(t *testing.T, f *file.File, r api.Ref, items []api.Item, a ask) {
	t.Helper()
	if got, want := a.of(f, r), a.plain(items); got != want {
		t.Fatalf("%v of %s: %v, not %v", a, told(items), got, want)
	}
}

// untold: nothing is told but why.
func untold(t *testing.T, f *file.File, r api.Ref, a ask, want api.Errno) {
	t.Helper()
	if got := a.of(f, r); got != (answer{e: want}) {
		t.Fatalf("%v of %v: %v, not %d", a, r, got, want)
	}
}

// text tells all bytes of the file. It asks a copy, so that the disk's own operations
// go on as if nothing was asked.
func text(d *disk.Disk) string {
	c := d.Copy()
	c.Fail(0)
	n, _ := c.Size("f")
	b, _ := c.Read("f", 0, int(n))
	return string(b)
}

// turn turns a bit of the record at off, or turns it back.
func turn(t *testing.T, d *disk.Disk, off int64) {
	t.Helper()
	b, e := d.Read("f", off+ahead, 1)
	fine(t, e)
	fine(t, d.Write("f", off+ahead, []byte{b[0] ^ 4}))
}

// around are keys that lie by key, and itself.
func around(key string) []string {
	cut := key[:len(key)-1]
	last := key[len(key)-1]
	return []string{key, cut, key + "\x00", key + "\xff", cut + string([]byte{last + 1}), cut + string([]byte{last - 1}), cut + string([]byte{last - 1, '\xff'})}
}
