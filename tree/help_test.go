package tree_test

import (
	"encoding/binary"
	"math/rand/v2"
	"slices"
	"strings"
	"testing"

	"pandect/api"
	"pandect/disk"
	"pandect/file"
	"pandect/node"
	"pandect/tree"
)

// How many a node may have and must have, how long a key and what lies under it may
// be, where records begin, and what kind a node's are of.
const (
	fan      = 8
	least    = 4
	mostKey  = 40
	mostVal  = 120
	slots    = 256
	nodeKind = 2
)

func lot(seed int) *rand.Rand { return rand.New(rand.NewPCG(uint64(seed), 12)) }

// fresh makes a file "f" on a disk of its own.
func fresh(t *testing.T) (*disk.Disk, *file.File) {
	t.Helper()
	d := disk.New(1 << 25)
	f, e := file.Create(d, "f")
	fine(t, e)
	return d, f
}

func fine(t *testing.T, e api.Errno) {
	t.Helper()
	if e != api.OK {
		t.Fatalf("it tells %d", e)
	}
}

// A branch is a node that is to be laid, with all that lies under it. What it says
// of its kids need not be so.
type branch struct {
	kind   byte
	items  []api.Item
	keys   []string
	kids   []*branch
	off    map[int]int64 // how much more than it is the Off of a kid is said to be
	count  map[int]int64 // and its Count
	letter string        // if it is another than its kids say
	behind string        // what stands behind it in its record
	at     api.Ref       // where it was laid
}

func (b *branch) isLeaf() bool { return len(b.kids) == 0 }

// laid is what the document says of a node's bytes, whether it may be or not.
func laid(n api.Node) string {
	var s strings.Builder
	text := func(b []byte) { s.WriteString(string([]byte{byte(len(b))}) + string(b)) }
	s.WriteByte(byte(len(n.Items) + len(n.Kids)))
	for _, i := range n.Items {
		text(i.Key)
		text(i.Val)
	}
	for i, kid := range n.Kids {
		text(n.Keys[i])
		binary.Write(&s, binary.BigEndian, kid)
	}
	return s.String()
}

// lay writes b and all that lies under it.
func lay(t *testing.T, f *file.File, b *branch) api.Ref {
	t.Helper()
	n := api.Node{Leaf: b.isLeaf(), Items: b.items}
	for i, kid := range b.kids {
		r := lay(t, f, kid)
		n.Keys = append(n.Keys, []byte(b.keys[i]))
		n.Kids = append(n.Kids, api.Ref{Off: r.Off + b.off[i], Count: r.Count + uint64(b.count[i])})
	}
	letter := b.letter
	if letter == "" {
		letter = map[bool]string{true: "L", false: "N"}[n.Leaf]
	}
	at, e := f.Append(b.kind, []byte(letter+laid(n)+b.behind))
	fine(t, e)
	b.at = api.Ref{Off: at, Count: node.Count(n)}
	return b.at
}

func item(key, val string) api.Item { return api.Item{Key: []byte(key), Val: []byte(val)} }

// val is what lies under a key, of a tree whose maker says nothing else of it: of
// some nothing, of some the most.
func val(key string) string {
	n := 0
	for _, c := range []byte(key) {
		n = n*31 + int(c)
	}
	switch n % 7 {
	case 0:
		return ""
	case 1:
		return (strings.Repeat("v", mostVal) + key)[len(key):]
	}
	return "v" + key
}

func leafOf(keys ...string) *branch {
	b := &branch{kind: nodeKind}
	for _, key := range keys {
		b.items = append(b.items, item(key, val(key)))
	}
	return b
}

// letters is a leaf of a letter each.
func letters(s string) *branch { return leafOf(strings.Split(s, "")...) }

// over is an inner node that says of each kid what it is.
func over(kids ...*branch) *branch {
	b := &branch{kind: nodeKind, kids: kids}
	for _, kid := range kids {
		b.keys = append(b.keys, kid.keysUnder()[0])
	}
	return b
}

// keysUnder are the keys of all items in b, from its first kid to its last.
func (b *branch) keysUnder() []string {
	var keys []string
	for _, i := range b.items {
		keys = append(keys, string(i.Key))
	}
	for _, kid := range b.kids {
		keys = append(keys, kid.keysUnder()...)
	}
	return keys
}

// all are b and all that lies under it.
func (b *branch) all() []*branch {
	out := []*branch{b}
	for _, kid := range b.kids {
		out = append(out, kid.all()...)
	}
	return out
}

func power(n, high int) int {
	out := 1
	for range high {
		out *= n
	}
	return out
}

// drawnKeys are n keys that rise, of few letters, so that some begin as others do.
func drawnKeys(l *rand.Rand, n int) []string {
	seen := map[string]bool{}
	for len(seen) < n {
		var b []byte
		for range 1 + l.IntN(6) {
			b = append(b, "\x00ab\xff"[l.IntN(4)])
		}
		seen[string(b)] = true
	}
	var keys []string
	for key := range seen {
		keys = append(keys, key)
	}
	slices.Sort(keys)
	return keys
}

// grown is a right tree so high of these keys, of which there have to be as many as
// it may have; how they are parted is drawn.
func grown(l *rand.Rand, keys []string, high, fewest int) *branch {
	if high == 1 {
		return leafOf(keys...)
	}
	lo, hi := power(least, high-1), power(fan, high-1)
	kids := max(fewest, (len(keys)+hi-1)/hi)
	kids += l.IntN(min(fan, len(keys)/lo) - kids + 1)
	var out []*branch
	for left := kids; left > 0; left-- {
		from, to := max(lo, len(keys)-(left-1)*hi), min(hi, len(keys)-(left-1)*lo)
		n := from + l.IntN(to-from+1)
		out = append(out, grown(l, keys[:n], high-1, least))
		keys = keys[n:]
	}
	return over(out...)
}

// drawn is a right tree that is drawn.
func drawn(l *rand.Rand, high int) *branch {
	fewest, most := 1, fan
	if high > 1 {
		fewest, most = 2*power(least, high-1), power(fan, high)
	}
	return grown(l, drawnKeys(l, fewest+l.IntN(min(most, 700)-fewest+1)), high, 2)
}

// plain asks the document's words of a tree in a file, once all that lies under it is
// known: its keys, how deep its leaves lie, and whether it is a right one.
func plain(f *file.File, r api.Ref, isRoot bool) (keys []string, depth int, is bool) {
	if r.Off == 0 && r.Count == 0 {
		return nil, 0, true
	}
	kind, body, e := f.Read(r.Off)
	n, no := node.Take(body)
	size := len(n.Items) + len(n.Kids)
	if e != api.OK || kind != nodeKind || no != api.OK || node.Count(n) != r.Count || !isRoot && size < least {
		return nil, 0, false
	}
	for _, i := range n.Items {
		keys = append(keys, string(i.Key))
	}
	for i, kid := range n.Kids {
		under, d, right := plain(f, kid, false)
		if !right || len(under) == 0 || under[0] != string(n.Keys[i]) || i > 0 && d != depth || len(keys) > 0 && slices.Max(keys) >= slices.Min(under) {
			return nil, 0, false
		}
		keys, depth = append(keys, under...), d
	}
	return keys, depth + 1, true
}

func checks(t *testing.T, f *file.File, r api.Ref, want int) {
	t.Helper()
	if depth, e := tree.Check(f, r); depth != want || e != api.OK {
		t.Errorf("%v: %d, %d, not %d", r, depth, e, want)
	}
}

// unchecked: no depth is told, but why.
func unchecked(t *testing.T, f *file.File, r api.Ref, want api.Errno) {
	t.Helper()
	if depth, e := tree.Check(f, r); depth != 0 || e != want {
		t.Errorf("%v: %d, %d, not %d", r, depth, e, want)
	}
}

func gets(t *testing.T, f *file.File, r api.Ref, key, want string) {
	t.Helper()
	if val, ok, e := tree.Get(f, r, []byte(key)); string(val) != want || !ok || e != api.OK {
		t.Errorf("%q: %q, %v, %d, not %q", key, val, ok, e, want)
	}
}

// getsNone: nothing lies under key.
func getsNone(t *testing.T, f *file.File, r api.Ref, key string) {
	t.Helper()
	if val, ok, e := tree.Get(f, r, []byte(key)); len(val) != 0 || ok || e != api.OK {
		t.Errorf("%q: %q, %v, %d", key, val, ok, e)
	}
}

// unget: nothing is told but why.
func unget(t *testing.T, f *file.File, r api.Ref, key string, want api.Errno) {
	t.Helper()
	if val, ok, e := tree.Get(f, r, []byte(key)); len(val) != 0 || ok || e != want {
		t.Errorf("%q: %q, %v, %d, not %d", key, val, ok, e, want)
	}
}

// right: b is a right tree, and told to be; and it lies where it is told.
func right(t *testing.T, b *branch, depth int) (*disk.Disk, *file.File, api.Ref) {
	t.Helper()
	d, f := fresh(t)
	r := lay(t, f, b)
	if _, want, is := plain(f, r, true); !is || want != depth {
		t.Errorf("it is none, the plainer one says: %d, %v", want, is)
	}
	checks(t, f, r, depth)
	return d, f, r
}

// wrong: b is no right tree, and told to be none.
func wrong(t *testing.T, b *branch) {
	t.Helper()
	_, f := fresh(t)
	r := lay(t, f, b)
	if _, _, is := plain(f, r, true); is {
		t.Error("it is one, the plainer one says")
	}
	unchecked(t, f, r, api.ErrForm)
}

// text tells all bytes of a file. It asks a copy, so that the disk's own operations
// go on as if nothing was asked.
func text(d *disk.Disk, name string) string {
	c := d.Copy()
	c.Fail(0)
	n, _ := c.Size(name)
	b, _ := c.Read(name, 0, int(n))
	return string(b)
}

// turn turns a bit of the record at off, or turns it back.
func turn(t *testing.T, d *disk.Disk, off int64) {
	t.Helper()
	b, e := d.Read("f", off+9, 1)
	fine(t, e)
	fine(t, d.Write("f", off+9, []byte{b[0] ^ 4}))
}

// around are keys that lie by key: those next to it, too.
func around(key string) []string {
	cut := key[:len(key)-1]
	last := key[len(key)-1]
	return []string{cut, key + "\x00", key + "\xff", cut + string([]byte{last + 1}), cut + string([]byte{last - 1}), cut + string([]byte{last - 1, '\xff'})}
}
