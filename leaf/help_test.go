package leaf_test

import (
	"bytes"
	"fmt"
	"maps"
	"math/rand/v2"
	"slices"
	"strings"
	"testing"

	"pandect/api"
	"pandect/leaf"
)

// How many a leaf may have and must have, how long a key and what lies under it
// may be, and how many may be parted.
const (
	fan        = 8
	least      = 4
	mostKey    = 40
	mostVal    = 120
	mostParted = 1 << 20
)

func lot(seed int) *rand.Rand { return rand.New(rand.NewPCG(uint64(seed), 11)) }

func item(key, val string) api.Item { return api.Item{Key: []byte(key), Val: []byte(val)} }

func put(key, val string) api.Change { return api.Change{Key: []byte(key), Val: []byte(val)} }

func out(key string) api.Change { return api.Change{Key: []byte(key), Out: true} }

// row is a row of keys, and of what lies under each.
func row(texts ...string) []api.Item {
	var items []api.Item
	for i := 0; i < len(texts); i += 2 {
		items = append(items, item(texts[i], texts[i+1]))
	}
	return items
}

// rowOf is a row of just these keys, each with another thing under it.
func rowOf(keys ...string) []api.Item {
	var items []api.Item
	for i, key := range keys {
		items = append(items, item(key, fmt.Sprint("was", i)))
	}
	return items
}

func putsOf(keys ...string) []api.Change {
	var l []api.Change
	for i, key := range keys {
		l = append(l, put(key, fmt.Sprint("is", i)))
	}
	return l
}

func outsOf(keys ...string) []api.Change {
	var l []api.Change
	for _, key := range keys {
		l = append(l, out(key))
	}
	return l
}

// copiedItems and copiedChanges have memory of their own.
func copiedItems(items []api.Item) []api.Item {
	var to []api.Item
	for _, i := range items {
		to = append(to, item(string(i.Key), string(i.Val)))
	}
	return to
}

func copiedChanges(l []api.Change) []api.Change {
	var to []api.Change
	for _, c := range l {
		to = append(to, api.Change{Key: bytes.Clone(c.Key), Val: bytes.Clone(c.Val), Out: c.Out})
	}
	return to
}

// edges are keys that rise: some begin as others do, some are short and high,
// some are long and low.
func edges() []string {
	long := strings.Repeat("m", mostKey-1)
	return []string{
		"\x00", "\x00\x00", "\x00\x01", "\x00\xff", "\x01", "\x01\x00", "a", "a\x00", "a\x00z", "aa", "ab", "b",
		long, long + "\x00", long + "m", long + "\xff", "n", "z" + long, "\x7e", "\x7f", "\x7f\xff", "\x80", "\x80\x00", "\xfe\xff",
		"\xff", "\xff\x00", "\xff\xff", strings.Repeat("\xff", mostKey),
	}
}

// many are n keys that rise, of up to four bytes and none of them empty.
func many(n int) []string {
	var keys []string
	for i := range n {
		keys = append(keys, string([]byte{byte(i >> 16), byte(i >> 8), byte(i), byte(i * 7)}))
	}
	return keys
}

// text is n bytes, others for another n.
func text(n int) string {
	b := make([]byte, n)
	l := lot(n)
	for i := range b {
		b[i] = byte(l.IntN(256))
	}
	return string(b)
}

func told(items []api.Item) string {
	var s strings.Builder
	for _, i := range items {
		fmt.Fprintf(&s, "%q:%q ", i.Key, i.Val)
	}
	return s.String()
}

func toldChanges(l []api.Change) string {
	var s strings.Builder
	for _, c := range l {
		fmt.Fprintf(&s, "%q:%q:%v ", c.Key, c.Val, c.Out)
	}
	return s.String()
}

// plain applies changes as the document tells it, another way.
func plain(items []api.Item, l []api.Change) []api.Item {
	under := map[string]string{}
	for _, i := range items {
		under[string(i.Key)] = string(i.Val)
	}
	for _, c := range l {
		if c.Out {
			delete(under, string(c.Key))
		} else {
			under[string(c.Key)] = string(c.Val)
		}
	}
	var made []api.Item
	for _, key := range slices.Sorted(maps.Keys(under)) {
		made = append(made, item(key, under[key]))
	}
	return made
}

// plainRising asks it another way: of the keys alone, then of each change.
func plainRising(l []api.Change) bool {
	var keys []string
	is := true
	for _, c := range l {
		keys = append(keys, string(c.Key))
		is = is && c.Key != nil && len(c.Key)-1 < mostKey && (!c.Out && len(c.Val) < mostVal+1 || string(c.Val) == "")
	}
	once := slices.Compact(slices.Sorted(slices.Values(keys)))
	return is && slices.Equal(keys, once) && !slices.Contains(once, "")
}

// plainFind looks for key among what lies where, not for how it compares.
func plainFind(items []api.Item, key string) (at int, is bool) {
	keys := []string{key}
	for _, i := range items {
		keys = append(keys, string(i.Key))
	}
	slices.Sort(keys)
	at = slices.Index(keys, key)
	return at, at < len(items) && string(items[at].Key) == key
}

func rises(t *testing.T, want bool, l ...api.Change) {
	t.Helper()
	if is := leaf.Rising(l); is != want {
		t.Errorf("%s: %v", toldChanges(l), is)
	}
}

// applies: the items with the changes are just these.
func applies(t *testing.T, items []api.Item, l []api.Change, want []api.Item) {
	t.Helper()
	if got := leaf.Apply(items, l); told(got) != told(want) {
		t.Errorf("%s with %s: %s, not %s", told(items), toldChanges(l), told(got), told(want))
	}
}

func finds(t *testing.T, items []api.Item, key string, wantAt int, wantIs bool) {
	t.Helper()
	if at, is := leaf.Find(items, []byte(key)); at != wantAt || is != wantIs {
		t.Errorf("%q in %s: %d %v, not %d %v", key, told(items), at, is, wantAt, wantIs)
	}
}

// drawnKey is a short key of few letters, so that two are often alike.
func drawnKey(l *rand.Rand) string {
	var b []byte
	for range 1 + l.IntN(3) {
		b = append(b, "\x00ab\xff"[l.IntN(4)])
	}
	return string(b)
}

func drawnKeys(l *rand.Rand, most int) []string {
	var keys []string
	for range l.IntN(most + 1) {
		keys = append(keys, drawnKey(l))
	}
	return slices.Compact(slices.Sorted(slices.Values(keys)))
}

func drawnChanges(l *rand.Rand, keys []string) []api.Change {
	var changes []api.Change
	for _, key := range keys {
		c := out(key)
		if l.IntN(3) > 0 {
			c = put(key, text(l.IntN(6)))
		}
		changes = append(changes, c)
	}
	return changes
}
