package bulk_test

import (
	"bytes"
	"fmt"
	"math/rand/v2"
	"slices"
	"strings"
	"testing"

	"pandect/api"
	"pandect/bulk"
	"pandect/disk"
	"pandect/file"
	"pandect/node"
	"pandect/tree"
)

// How many a node may have and must have, how long a key and what lies under it may
// be, where records begin, what is around one, and what kind a node's are of.
const (
	fan      = 8
	least    = 4
	mostKey  = 40
	mostVal  = 120
	slots    = 256
	around   = 9
	nodeKind = 2
)

func lot(seed int) *rand.Rand { return rand.New(rand.NewPCG(uint64(seed), 16)) }

// fresh makes a file "f" on a disk of its own.
func fresh(t *testing.T) (*disk.Disk, *file.File) {
	t.Helper()
	return roomy(t, 1<<25)
}

func roomy(t *testing.T, room int64) (*disk.Disk, *file.File) {
	t.Helper()
	d := disk.New(room)
	f, e := file.Create(d, "f")
	fine(t, e)
	return d, f
}

func fine(t *testing.T, e api.Errno) {
	t.Helper()
	if e != api.OK {
		t.Fatalf("it tells %d", e)
	}
}

func item(key, val string) api.Item { return api.Item{Key: []byte(key), Val: []byte(val)} }

// val is what lies under a key: of some nothing, of some the most.
func val(key string) string {
	n := 0
	for _, c := range []byte(key) {
		n = n*31 + int(c)
	}
	switch n % 7 {
	case 0:
		return ""
	case 1:
		return (strings.Repeat("v", mostVal) + key)[len(key):]
	}
	return "v" + key
}

func itemsOf(keys ...string) []api.Item {
	var items []api.Item
	for _, key := range keys {
		items = append(items, item(key, val(key)))
	}
	return items
}

// numbered are n keys that rise, of three bytes.
func numbered(n int) []string {
	var keys []string
	for i := range n {
		keys = append(keys, string([]byte{byte(i >> 16), byte(i >> 8), byte(i)}))
	}
	return keys
}

// greatest are n items as long as may be.
func greatest(n int) []api.Item {
	var items []api.Item
	for _, key := range numbered(n) {
		items = append(items, item(key+strings.Repeat("\xff", mostKey-len(key)), strings.Repeat("v", mostVal)))
	}
	return items
}

// edges are keys of each length at each edge of what may be, rising.
func edges() []string {
	long := strings.Repeat("m", mostKey-1)
	keys := []string{
		"\x00", "\x00\x00", "\x00\xff", "\x01", "a", "a\x00", "aa", "b", long, long + "\x00", long + "m", long + "\xff", "n",
		"\x7f", "\x80", "\xff", "\xff\x00", "\xff\xff", strings.Repeat("\xff", mostKey), strings.Repeat("\x00", mostKey),
	}
	slices.Sort(keys)
	return keys
}

// drawnKeys are up to so many keys that rise, of few letters, so that some begin as
// others do.
func drawnKeys(l *rand.Rand, most, long int) []string {
	var keys []string
	for range l.IntN(most + 1) {
		var b []byte
		for range 1 + l.IntN(long) {
			b = append(b, "\x00ab\xff"[l.IntN(4)])
		}
		keys = append(keys, string(b))
	}
	slices.Sort(keys)
	return slices.Compact(keys)
}

// A seen is what was found in a tree, by its nodes alone.
type seen struct {
	items []api.Item
	offs  []int64 // where its nodes lie
	high  int
}

// look goes over a right tree, and asks that it is one.
func look(t *testing.T, f *file.File, r api.Ref, isRoot bool) seen {
	t.Helper()
	kind, body, e := f.Read(r.Off)
	fine(t, e)
	n, e := node.Take(body)
	fine(t, e)
	if size := len(n.Items) + len(n.Kids); kind != nodeKind || node.Count(n) != r.Count || !isRoot && size < least {
		t.Fatalf("%v: kind %d, %d in it, of %d items", r, kind, size, node.Count(n))
	}
	s := seen{n.Items, []int64{r.Off}, 1}
	for i, kid := range n.Kids {
		k := look(t, f, kid, false)
		if i > 0 && k.high+1 != s.high || !bytes.Equal(k.items[0].Key, n.Keys[i]) {
			t.Fatalf("%v: its kid %d lies %d high under %q", r, i, k.high, n.Keys[i])
		}
		s.items, s.offs, s.high = append(s.items, k.items...), append(s.offs, k.offs...), k.high+1
	}
	return s
}

func told(items []api.Item) string {
	var s strings.Builder
	for _, i := range items {
		fmt.Fprintf(&s, "%q:%q ", i.Key, i.Val)
	}
	return s.String()
}

func same(a, b []api.Item) bool {
	return slices.EqualFunc(a, b, func(a, b api.Item) bool { return bytes.Equal(a.Key, b.Key) && bytes.Equal(a.Val, b.Val) })
}

// holds: r is a right tree of just these items. It tells where its nodes lie, rising.
func holds(t *testing.T, f *file.File, r api.Ref, want []api.Item) []int64 {
	t.Helper()
	high, e := tree.Check(f, r)
	if e != api.OK || (r == api.Ref{}) != (len(want) == 0) || r.Count != uint64(len(want)) {
		t.Fatalf("%v of %d items: %d", r, len(want), e)
	}
	if r == (api.Ref{}) {
		return nil
	}
	s := look(t, f, r, true)
	if s.high != high || !same(s.items, want) {
		t.Fatalf("%d high, %d: %s, not %s", s.high, high, told(s.items), told(want))
	}
	slices.Sort(s.offs)
	return s.offs
}

// puts puts all of the items, which is told to be done.
func puts(t *testing.T, b *bulk.Builder, items ...api.Item) {
	t.Helper()
	for _, i := range items {
		if e := b.Put(i); e != api.OK {
			t.Fatalf("%s: %d", told([]api.Item{i}), e)
		}
	}
}

// done: the tree of these items is told.
func done(t *testing.T, f *file.File, b *bulk.Builder, want []api.Item) api.Ref {
	t.Helper()
	r, e := b.Done()
	fine(t, e)
	holds(t, f, r, want)
	return r
}

// builds makes a tree of the items and asks all that is promised of it: what is
// appended are its nodes, and what was there is as it was.
func builds(t *testing.T, d *disk.Disk, f *file.File, items []api.Item) api.Ref {
	t.Helper()
	end, was := f.End(), text(t, d)
	b := bulk.New(f)
	puts(t, b, items...)
	r := done(t, f, b, items)
	if !strings.HasPrefix(text(t, d), was) {
		t.Fatal("what was there is another")
	}
	if offs := holds(t, f, r, items); !slices.Equal(appended(t, f, end), offs) {
		t.Fatalf("appended is %v, and the tree's nodes are at %v", appended(t, f, end), offs)
	}
	ends(t, d, b, api.ErrArg)
	return r
}

// appended tells where the records begin from off on.
func appended(t *testing.T, f *file.File, off int64) []int64 {
	t.Helper()
	var offs []int64
	for off < f.End() {
		_, body, e := f.Read(off)
		fine(t, e)
		offs = append(offs, off)
		off += around + int64(len(body))
	}
	return offs
}

// text is all that is in the file.
func text(t *testing.T, d *disk.Disk) string {
	t.Helper()
	size, _ := d.Size("f")
	b, e := d.Read("f", 0, int(size))
	fine(t, e)
	return string(b)
}

// wrong are items that may be put nowhere.
func wrong() []api.Item {
	long, high := strings.Repeat("\xff", mostKey+1), strings.Repeat("v", mostVal+1)
	return []api.Item{
		{}, {Key: []byte{}}, item("", "v"), item("", high), item(long, ""), item(long, "v"), item(long, high), item("\xff\xff\xff\xff", high),
		item(strings.Repeat("\xff", 255), ""), item(strings.Repeat("\xff", 256), ""), item(strings.Repeat("\xff", 257), "v"), item(strings.Repeat("\xff", 1<<16+5), "v"),
		item("\xff\xff\xff\xff", strings.Repeat("v", 255)), item("\xff\xff\xff\xff", strings.Repeat("v", 256)), item("\xff\xff\xff\xff", strings.Repeat("v", 1<<16)),
	}
}

// ends: whatever is asked of b, this is told, and nothing is done.
func ends(t *testing.T, d *disk.Disk, b *bulk.Builder, want api.Errno) {
	t.Helper()
	ops := d.Ops()
	for range 3 {
		for _, i := range append(wrong(), item("\x00", ""), item("a", "v"), item(strings.Repeat("\xff", mostKey), strings.Repeat("v", mostVal))) {
			if e := b.Put(i); e != want {
				t.Fatalf("%s: %d, not %d", told([]api.Item{i}), e, want)
			}
		}
		if r, e := b.Done(); r != (api.Ref{}) || e != want {
			t.Fatalf("Done: %v, %d, not %d", r, e, want)
		}
	}
	for _, key := range numbered(30) {
		if e := b.Put(item("\xff\xff"+key, "v")); e != want {
			t.Fatalf("%q: %d, not %d", key, e, want)
		}
	}
	if d.Ops() != ops {
		t.Fatal("it is asked of the disk")
	}
}
