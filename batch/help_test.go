package batch_test

import (
	"bytes"
	"cmp"
	"fmt"
	"math/rand/v2"
	"slices"
	"strings"
	"testing"

	"pandect/api"
	"pandect/batch"
	"pandect/disk"
	"pandect/file"
	"pandect/node"
	"pandect/tree"
)

// How many a node may have and must have, how long a key and what lies under it may
// be, how many leaf.Groups parts, where records begin, what is around one, and what
// kind a node's are of.
const (
	fan        = 8
	least      = 4
	mostKey    = 40
	mostVal    = 120
	mostParted = 1 << 20
	slots      = 256
	around     = 9
	nodeKind   = 2
)

func lot(seed int) *rand.Rand { return rand.New(rand.NewPCG(uint64(seed), 13)) }

// fresh makes a file "f" on a disk of its own.
func fresh(t *testing.T) (*disk.Disk, *file.File) {
	t.Helper()
	return roomy(t, 1<<25)
}

func roomy(t *testing.T, room int64) (*disk.Disk, *file.File) {
	t.Helper()
	d := disk.New(room)
	f, e := file.Create(d, "f")
	fine(t, e)
	return d, f
}

func fine(t *testing.T, e api.Errno) {
	t.Helper()
	if e != api.OK {
		t.Fatalf("it tells %d", e)
	}
}

func item(key, val string) api.Item { return api.Item{Key: []byte(key), Val: []byte(val)} }

func put(key, val string) api.Change { return api.Change{Key: []byte(key), Val: []byte(val)} }

func out(key string) api.Change { return api.Change{Key: []byte(key), Out: true} }

func puts(keys ...string) []api.Change {
	var l []api.Change
	for _, key := range keys {
		l = append(l, put(key, "new"+key))
	}
	return l
}

func outs(keys ...string) []api.Change {
	var l []api.Change
	for _, key := range keys {
		l = append(l, out(key))
	}
	return l
}

// letters are the letters of s, each a key.
func letters(s string) []string { return strings.Split(s, "") }

// numbered are n keys that rise, of three bytes.
func numbered(n int) []string {
	var keys []string
	for i := range n {
		keys = append(keys, string([]byte{byte(i >> 16), byte(i >> 8), byte(i)}))
	}
	return keys
}

// val is what lies under a key of a tree that a test lays: of some nothing, of some
// the most.
func val(key string) string {
	n := 0
	for _, c := range []byte(key) {
		n = n*31 + int(c)
	}
	switch n % 7 {
	case 0:
		return ""
	case 1:
		return (strings.Repeat("v", mostVal) + key)[len(key):]
	}
	return "v" + key
}

// written lays a node, whatever it is, and tells where it lies.
func written(t *testing.T, f *file.File, n api.Node) api.Ref {
	t.Helper()
	at, e := f.Append(nodeKind, node.Put(n))
	fine(t, e)
	return api.Ref{Off: at, Count: node.Count(n)}
}

func leafOf(t *testing.T, f *file.File, keys ...string) api.Ref {
	t.Helper()
	n := api.Node{Leaf: true}
	for _, key := range keys {
		n.Items = append(n.Items, item(key, val(key)))
	}
	return written(t, f, n)
}

// innerOf writes an inner node of these kids under these keys.
func innerOf(t *testing.T, f *file.File, keys []string, kids ...api.Ref) api.Ref {
	t.Helper()
	n := api.Node{Kids: kids}
	for _, key := range keys {
		n.Keys = append(n.Keys, []byte(key))
	}
	return written(t, f, n)
}

// leavesOf writes a root over leaves of so many keys each.
func leavesOf(t *testing.T, f *file.File, keys []string, sizes ...int) api.Ref {
	t.Helper()
	var firsts []string
	var kids []api.Ref
	for _, n := range sizes {
		firsts, kids = append(firsts, keys[0]), append(kids, leafOf(t, f, keys[:n]...))
		keys = keys[n:]
	}
	return innerOf(t, f, firsts, kids...)
}

func power(n, high int) int {
	out := 1
	for range high {
		out *= n
	}
	return out
}

// grown writes a right tree so high of these keys, of which there have to be as many
// as it may have; how they are parted is drawn.
func grown(t *testing.T, f *file.File, l *rand.Rand, keys []string, high, fewest int) api.Ref {
	t.Helper()
	if high == 1 {
		return leafOf(t, f, keys...)
	}
	lo, hi := power(least, high-1), power(fan, high-1)
	kids := max(fewest, (len(keys)+hi-1)/hi)
	kids += l.IntN(min(fan, len(keys)/lo) - kids + 1)
	var firsts []string
	var refs []api.Ref
	for left := kids; left > 0; left-- {
		from, to := max(lo, len(keys)-(left-1)*hi), min(hi, len(keys)-(left-1)*lo)
		n := from + l.IntN(to-from+1)
		firsts, refs = append(firsts, keys[0]), append(refs, grown(t, f, l, keys[:n], high-1, least))
		keys = keys[n:]
	}
	return innerOf(t, f, firsts, refs...)
}

// fewest is how many items a right tree has at least that is so high.
func fewest(high int) int {
	if high == 1 {
		return 1
	}
	return 2 * power(least, high-1)
}

// smallest writes a right tree that is so high, of as few items as may be, and tells
// their keys.
func smallest(t *testing.T, f *file.File, high int) (api.Ref, []string) {
	t.Helper()
	keys := numbered(fewest(high))
	return grown(t, f, lot(0), keys, high, 2), keys
}

// A seen is what was found in a tree, by its nodes alone.
type seen struct {
	items []api.Item
	offs  []int64 // where its nodes lie, the root first
	high  int
}

func look(t *testing.T, f *file.File, r api.Ref) seen {
	t.Helper()
	if r == (api.Ref{}) {
		return seen{}
	}
	_, body, e := f.Read(r.Off)
	fine(t, e)
	n, e := node.Take(body)
	fine(t, e)
	s := seen{n.Items, []int64{r.Off}, 1}
	for _, kid := range n.Kids {
		k := look(t, f, kid)
		s.items, s.offs, s.high = append(s.items, k.items...), append(s.offs, k.offs...), k.high+1
	}
	return s
}

func told(items []api.Item) string {
	var s strings.Builder
	for _, i := range items {
		fmt.Fprintf(&s, "%q:%q ", i.Key, i.Val)
	}
	return s.String()
}

func same(a, b []api.Item) bool {
	return slices.EqualFunc(a, b, func(a, b api.Item) bool { return bytes.Equal(a.Key, b.Key) && bytes.Equal(a.Val, b.Val) })
}

func toldChanges(l []api.Change) string {
	var s strings.Builder
	for _, c := range l {
		fmt.Fprintf(&s, "%q:%q:%v ", c.Key, c.Val, c.Out)
	}
	return s.String()
}

// plain applies changes another way than the program does.
func plain(items []api.Item, l []api.Change) []api.Item {
	under := map[string]string{}
	for _, i := range items {
		under[string(i.Key)] = string(i.Val)
	}
	for _, c := range l {
		if delete(under, string(c.Key)); !c.Out {
			under[string(c.Key)] = string(c.Val)
		}
	}
	var made []api.Item
	for key, val := range under {
		made = append(made, item(key, val))
	}
	slices.SortFunc(made, func(a, b api.Item) int { return cmp.Compare(string(a.Key), string(b.Key)) })
	return made
}

// bytesOf are all bytes of the file that lie ahead of end.
func bytesOf(t *testing.T, d *disk.Disk, end int64) []byte {
	t.Helper()
	b, e := d.Read("f", 0, int(end))
	fine(t, e)
	return b
}

// holds: r is a right tree of just these items.
func holds(t *testing.T, f *file.File, r api.Ref, want []api.Item) {
	t.Helper()
	high, e := tree.Check(f, r)
	if e != api.OK || (r == api.Ref{}) != (len(want) == 0) || r.Count != uint64(len(want)) {
		t.Fatalf("%v of %d items: %d", r, len(want), e)
	}
	s := look(t, f, r)
	if s.high != high || !same(s.items, want) {
		t.Fatalf("%d high, %d: %s, not %s", s.high, high, told(s.items), told(want))
	}
}

// appended tells where the records lie that begin from off on: all have to be nodes.
func appended(t *testing.T, f *file.File, off int64) []int64 {
	t.Helper()
	var offs []int64
	for off < f.End() {
		kind, body, e := f.Read(off)
		if _, no := node.Take(body); e != api.OK || kind != nodeKind || no != api.OK {
			t.Fatalf("at %d: kind %d, %d, %d", off, kind, e, no)
		}
		offs = append(offs, off)
		off += around + int64(len(body))
	}
	return offs
}

// updates does an Update and asks all that is promised of it: it tells the tree and
// how many nodes are new.
func updates(t *testing.T, d *disk.Disk, f *file.File, r api.Ref, l []api.Change) (api.Ref, int) {
	t.Helper()
	end, was := f.End(), look(t, f, r)
	ahead := bytesOf(t, d, slots)
	got, e := batch.Update(f, r, l)
	if e != api.OK {
		t.Fatalf("%s with %s: %d", told(was.items), toldChanges(l), e)
	}
	holds(t, f, got, plain(was.items, l))
	if is := look(t, f, r); !same(is.items, was.items) || !slices.Equal(is.offs, was.offs) || !bytes.Equal(bytesOf(t, d, slots), ahead) {
		t.Fatalf("what was there is changed: %s became %s", told(was.items), told(is.items))
	}
	var news []int64
	for _, off := range look(t, f, got).offs {
		if off >= end {
			news = append(news, off)
		}
	}
	slices.Sort(news)
	if offs := appended(t, f, end); !slices.Equal(offs, news) {
		t.Fatalf("appended are nodes at %v, and new ones of the tree at %v", offs, news)
	}
	return got, len(news)
}

// fails: nothing is told but why.
func fails(t *testing.T, f *file.File, r api.Ref, l []api.Change, want api.Errno) {
	t.Helper()
	if got, e := batch.Update(f, r, l); got != (api.Ref{}) || e != want {
		t.Errorf("%v with %s: %v, %d, not %d", r, toldChanges(l), got, e, want)
	}
}

// drawnKeys are up to so many keys that rise, of few letters, so that some begin as
// others do and two draws often have some in common.
func drawnKeys(l *rand.Rand, most, long int) []string {
	var keys []string
	for range l.IntN(most + 1) {
		var b []byte
		for range 1 + l.IntN(long) {
			b = append(b, "\x00ab\xff"[l.IntN(4)])
		}
		keys = append(keys, string(b))
	}
	slices.Sort(keys)
	return slices.Compact(keys)
}

// drawnChanges take out of a hundred so many of the keys, and put under the others
// what is told by how.
func drawnChanges(l *rand.Rand, keys []string, outs int, how string) []api.Change {
	var changes []api.Change
	for _, key := range keys {
		c := put(key, how+val(key)[:min(len(val(key)), mostVal-len(how))])
		if l.IntN(100) < outs {
			c = out(key)
		}
		changes = append(changes, c)
	}
	return changes
}
