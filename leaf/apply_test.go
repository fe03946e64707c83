package leaf_test

import (
	"fmt"
	"slices"
	"strings"
	"testing"

	"pandect/api"
	"pandect/leaf"
)

// Some, told by hand.
func TestP111Apply(t *testing.T) {
	was := row("b", "1", "d", "2", "f", "3")
	for _, x := range []struct {
		l    []api.Change
		want []api.Item
	}{
		{nil, was},
		{[]api.Change{put("a", "9")}, row("a", "9", "b", "1", "d", "2", "f", "3")},
		{[]api.Change{put("b", "9")}, row("b", "9", "d", "2", "f", "3")},
		{[]api.Change{put("c", "9")}, row("b", "1", "c", "9", "d", "2", "f", "3")},
		{[]api.Change{put("f", "9")}, row("b", "1", "d", "2", "f", "9")},
		{[]api.Change{put("g", "9")}, row("b", "1", "d", "2", "f", "3", "g", "9")},
		{[]api.Change{out("a")}, was},
		{[]api.Change{out("b")}, row("d", "2", "f", "3")},
		{[]api.Change{out("c")}, was},
		{[]api.Change{out("d")}, row("b", "1", "f", "3")},
		{[]api.Change{out("f")}, row("b", "1", "d", "2")},
		{[]api.Change{out("g")}, was},
		{[]api.Change{out("b"), out("d"), out("f")}, nil},
		{[]api.Change{out("b"), put("c", "9"), out("d"), put("e", "8"), out("f")}, row("c", "9", "e", "8")},
		{[]api.Change{put("a", "7"), out("b"), out("c"), put("d", "8"), put("da", "9"), out("g")}, row("a", "7", "d", "8", "da", "9", "f", "3")},
		{[]api.Change{put("a", "6"), put("aa", "7"), put("g", "8"), put("h", "9")}, row("a", "6", "aa", "7", "b", "1", "d", "2", "f", "3", "g", "8", "h", "9")},
	} {
		applies(t, was, x.l, x.want)
	}
}

func TestP111ApplyToNothing(t *testing.T) {
	for _, items := range [][]api.Item{nil, {}} {
		for _, l := range [][]api.Change{nil, {}} {
			if got := leaf.Apply(items, l); len(got) != 0 {
				t.Error(got)
			}
		}
		applies(t, items, outsOf("a", "b"), nil)
		applies(t, items, putsOf("a", "b"), row("a", "is0", "b", "is1"))
		applies(t, items, []api.Change{out("a"), put("b", "1"), out("c")}, row("b", "1"))
	}
	applies(t, row("a", "1"), []api.Change{}, row("a", "1"))
}

// Nothing may lie under a key: that does not take it out.
func TestP111ApplyOfEmptyVals(t *testing.T) {
	applies(t, nil, []api.Change{put("a", "")}, row("a", ""))
	applies(t, row("a", "1", "b", ""), []api.Change{put("a", "")}, row("a", "", "b", ""))
	applies(t, row("a", "", "b", ""), []api.Change{put("a", "1"), put("ab", "")}, row("a", "1", "ab", "", "b", ""))
	applies(t, row("a", "", "b", ""), []api.Change{out("a")}, row("b", ""))
	applies(t, row("a", "1"), []api.Change{{Key: []byte("a")}}, row("a", ""))
}

// Each few of five keys as items, each change or none of each of them.
func TestP111ApplyEachFew(t *testing.T) {
	keys := []string{"\x00", "a", "a\x00", "b", "\xff"}
	for which := range 1 << len(keys) {
		var items []api.Item
		for i, key := range keys {
			if which>>i&1 == 1 {
				items = append(items, item(key, "was"+key))
			}
		}
		for how := range 243 {
			var l []api.Change
			for i, rest := 0, how; i < len(keys); i, rest = i+1, rest/3 {
				switch rest % 3 {
				case 1:
					l = append(l, put(keys[i], "is"+keys[i]))
				case 2:
					l = append(l, out(keys[i]))
				}
			}
			applies(t, items, l, plain(items, l))
		}
	}
}

// Each edge put into, and taken out of, the row of all others, and of all.
func TestP111ApplyOfEdges(t *testing.T) {
	all := edges()
	applies(t, nil, putsOf(all...), plain(nil, putsOf(all...)))
	applies(t, rowOf(all...), outsOf(all...), nil)
	for i, key := range all {
		others := rowOf(slices.Delete(slices.Clone(all), i, i+1)...)
		want := slices.Insert(slices.Clone(others), i, item(key, "new"))
		applies(t, others, []api.Change{put(key, "new")}, want)
		applies(t, want, []api.Change{out(key)}, others)
		applies(t, others, []api.Change{out(key)}, others)
		applies(t, want, []api.Change{put(key, "other")}, slices.Concat(others[:i], row(key, "other"), others[i:]))
		if i > 0 {
			applies(t, rowOf(all...), outsOf(all[:i]...), rowOf(all...)[i:])
			applies(t, rowOf(all...), outsOf(all[i:]...), rowOf(all...)[:i])
			applies(t, rowOf(all[:i]...), outsOf(all[i:]...), rowOf(all[:i]...))
			applies(t, rowOf(all[i:]...), outsOf(all[:i]...), rowOf(all[i:]...))
			applies(t, rowOf(all[:i]...), putsOf(all[i:]...), append(rowOf(all[:i]...), leaf.Apply(nil, putsOf(all[i:]...))...))
		}
	}
}

// The greatest keys, and the most under them, to the last byte.
func TestP111ApplyOfTheGreatest(t *testing.T) {
	long := strings.Repeat("k", mostKey-1)
	items := row(long+"a", text(mostVal), long+"c", text(mostVal-1))
	applies(t, items, []api.Change{put(long+"b", text(mostVal))}, row(long+"a", text(mostVal), long+"b", text(mostVal), long+"c", text(mostVal-1)))
	applies(t, items, []api.Change{out(long + "a"), put(long+"c", text(mostVal))}, row(long+"c", text(mostVal)))
	applies(t, items, []api.Change{out(long), out(long + "b")}, items)
}

// Of the items only that their Keys rise is asked: the first may be empty, and
// what lies under a key may be long.
func TestP111ApplyToAnyItems(t *testing.T) {
	items := row("", text(500), text(50), "1", "\xff"+text(300), "2")
	applies(t, items, nil, items)
	l := []api.Change{put("\x00", "3"), out("\x01"), put("\xff", "4")}
	applies(t, items, l, plain(items, l))
}

// There may be more items, and more changes, than a leaf has.
func TestP111ApplyOfMany(t *testing.T) {
	keys := many(100_000)
	var items []api.Item
	var l []api.Change
	for i, key := range keys {
		if i%2 == 0 || i%5 == 0 {
			items = append(items, item(key, "was"))
		}
		if i%3 == 0 {
			l = append(l, put(key, fmt.Sprint(i)))
		} else if i%7 == 0 {
			l = append(l, out(key))
		}
	}
	applies(t, items, l, plain(items, l))
	applies(t, items, nil, items)
	applies(t, nil, putsOf(keys...), leaf.Apply(items, putsOf(keys...)))
	applies(t, items, outsOf(keys...), nil)
}

// One by one, in whatever order, they come to what they come to at once.
func TestP111ApplyOneByOne(t *testing.T) {
	l := lot(2)
	for range 2000 {
		items, changes := rowOf(drawnKeys(l, 12)...), drawnChanges(l, drawnKeys(l, 12))
		want := leaf.Apply(items, changes)
		for _, i := range l.Perm(len(changes)) {
			items = leaf.Apply(items, changes[i:i+1])
		}
		applies(t, items, nil, want)
		applies(t, items, changes, want)
	}
}

func TestP111ApplyAsThePlainOne(t *testing.T) {
	l := lot(3)
	for range 30_000 {
		items, changes := rowOf(drawnKeys(l, 20)...), drawnChanges(l, drawnKeys(l, 20))
		want := plain(items, changes)
		applies(t, items, changes, want)
		for at, i := range want {
			finds(t, leaf.Apply(items, changes), string(i.Key), at, true)
		}
	}
}
