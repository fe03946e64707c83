package leaf_test

import (
	"slices"
	"testing"

	"pandect/api"
	"pandect/leaf"
)

func TestP111Find(t *testing.T) {
	items := row("b", "1", "d", "2", "f", "3")
	finds(t, items, "", 0, false)
	finds(t, items, "a", 0, false)
	finds(t, items, "az", 0, false)
	finds(t, items, "b", 0, true)
	finds(t, items, "b\x00", 1, false)
	finds(t, items, "c", 1, false)
	finds(t, items, "d", 1, true)
	finds(t, items, "da", 2, false)
	finds(t, items, "f", 2, true)
	finds(t, items, "f\x00", 3, false)
	finds(t, items, "g", 3, false)
}

func TestP111FindInNothing(t *testing.T) {
	for _, items := range [][]api.Item{nil, {}} {
		for _, key := range append(edges(), "") {
			finds(t, items, key, 0, false)
		}
		if at, is := leaf.Find(items, nil); at != 0 || is {
			t.Error(at, is)
		}
	}
}

// An empty key, nil or not, is below all but another.
func TestP111FindTheEmptyKey(t *testing.T) {
	for _, key := range [][]byte{nil, {}} {
		for _, first := range [][]byte{nil, {}} {
			if at, is := leaf.Find([]api.Item{{Key: first}, item("a", "")}, key); at != 0 || !is {
				t.Error(at, is)
			}
		}
		if at, is := leaf.Find(row("\x00", "1"), key); at != 0 || is {
			t.Error(at, is)
		}
	}
	finds(t, row("", "1", "a", "2"), "a", 1, true)
	finds(t, row("", "1", "a", "2"), "\x00", 1, false)
}

// Each edge, in the row of all and of all others, and of each few that follow
// each other.
func TestP111FindEdges(t *testing.T) {
	all := edges()
	for i, key := range all {
		finds(t, rowOf(all...), key, i, true)
		finds(t, rowOf(slices.Delete(slices.Clone(all), i, i+1)...), key, i, false)
		for from := range all {
			for to := from; to <= len(all); to++ {
				at := min(max(i, from), to) - from
				finds(t, rowOf(all[from:to]...), key, at, i >= from && i < to)
			}
		}
	}
}

func TestP111FindBytes(t *testing.T) {
	var keys []string
	for c := range 256 {
		keys = append(keys, string([]byte{byte(c)}))
	}
	for c, key := range keys {
		finds(t, rowOf(keys...), key, c, true)
		finds(t, rowOf(keys...), key+"\x00", c+1, false)
	}
}

// What lies under a key is not looked at.
func TestP111FindHangsOnKeys(t *testing.T) {
	finds(t, row("a", "c", "c", "a", "d", "b"), "b", 1, false)
	finds(t, row("a", "b", "c", "b"), "c", 1, true)
	finds(t, row("a", "a", "a\x00", "", "b", "a"), "a\x00", 1, true)
}

// A leaf has few; a row may have more.
func TestP111FindInMany(t *testing.T) {
	keys := many(3000)
	items := rowOf(keys...)
	for i, key := range keys {
		finds(t, items, key, i, true)
		finds(t, items, key+"\x00", i+1, false)
	}
	finds(t, items, "\xff", len(items), false)
}

// How many are below is asked of all, in whatever order they stand.
func TestP111FindInWhatDoesNotRise(t *testing.T) {
	finds(t, row("c", "", "a", "", "b", ""), "b", 1, false)
	finds(t, row("c", "", "b", "", "a", ""), "b", 1, true)
	finds(t, row("d", "", "c", "", "a", "", "b", ""), "e", 4, false)
	finds(t, row("b", "", "b", "", "b", ""), "b", 0, true)
	finds(t, row("a", "", "a", "", "b", ""), "b", 2, true)
}

func TestP111FindAsThePlainOne(t *testing.T) {
	l := lot(4)
	for range 50_000 {
		items, key := rowOf(drawnKeys(l, 20)...), drawnKey(l)
		at, is := plainFind(items, key)
		finds(t, items, key, at, is)
		l.Shuffle(len(items), func(i, j int) { items[i], items[j] = items[j], items[i] })
		at, is = plainFind(items, key)
		finds(t, items, key, at, is)
	}
}
