package leaf_test

import (
	"strings"
	"sync"
	"testing"

	"pandect/api"
	"pandect/leaf"
)

// odd are keys beyond all limits.
func odd() []string {
	return []string{"", "", "b", "a", "a", strings.Repeat("a", 1<<16), strings.Repeat("\xff", mostKey+1), "", "\x00", "a\x00"}
}

// Whatever is handed in, rising or not, there is an end to it.
func TestR1NonePanics(t *testing.T) {
	keys := odd()
	for i := range keys {
		for j := i; j <= len(keys); j++ {
			items := rowOf(keys[i:j]...)
			for k := range keys {
				l := append(putsOf(keys[k:]...), outsOf(keys...)...)
				l = append(l, api.Change{}, api.Change{Val: []byte(text(1000)), Out: true})
				leaf.Rising(l)
				leaf.Apply(items, l)
				leaf.Apply(items, l[k:])
				leaf.Apply(nil, l)
				leaf.Find(items, []byte(keys[k]))
			}
		}
	}
	leaf.Apply([]api.Item{{}, {}}, []api.Change{{}, {}, {Out: true}})
	leaf.Find([]api.Item{{}, {}}, nil)
}

// withRoom lays texts out of one memory, with spare room behind each.
func withRoom(room []byte, texts ...*[]byte) []byte {
	for _, at := range texts {
		from := len(room)
		room = append(append(room, *at...), "spare room"...)
		*at = room[from : from+len(*at)]
	}
	return room
}

func TestR3WhatIsHandedInStays(t *testing.T) {
	l := lot(5)
	for range 500 {
		items := append(rowOf(drawnKeys(l, 9)...), item("zz", "spare"))
		changes := append(drawnChanges(l, drawnKeys(l, 9)), put("zz", "spare"), out("zzz"))
		room, key := make([]byte, 0, 1<<12), []byte("a")
		for i := range items {
			room = withRoom(room, &items[i].Key, &items[i].Val)
		}
		for i := range changes {
			room = withRoom(room, &changes[i].Key, &changes[i].Val)
		}
		room = withRoom(room, &key)
		was, wasItems, wasChanges := string(room), told(items), toldChanges(changes)
		leaf.Rising(changes[:len(changes)-1])
		leaf.Apply(items[:len(items)-1], changes[:len(changes)-2])
		leaf.Apply(items, changes)
		leaf.Find(items[:len(items)-1], key)
		if string(room) != was || told(items) != wasItems || toldChanges(changes) != wasChanges {
			t.Fatalf("%s with %s became %s with %s", wasItems, wasChanges, told(items), toldChanges(changes))
		}
	}
}

// overwrite turns all that is to be reached through items, spare room too.
func overwrite(items []api.Item) {
	for _, i := range items {
		for _, b := range [][]byte{i.Key, i.Val} {
			b = b[:cap(b)]
			for j := range b {
				b[j] = '#'
			}
		}
	}
	clear(items[:cap(items)])
}

// An answer is new: what is done to it turns nothing that was handed in, nor
// another answer; and the other way round.
func TestR3NothingIsShared(t *testing.T) {
	l := lot(6)
	for range 500 {
		items, changes := rowOf(drawnKeys(l, 9)...), drawnChanges(l, drawnKeys(l, 9))
		wasItems, wasChanges := told(items), toldChanges(changes)
		for _, c := range [][]api.Change{nil, changes} {
			made, other := leaf.Apply(items, c), leaf.Apply(items, c)
			want := told(made)
			overwrite(made)
			if told(items) != wasItems || toldChanges(changes) != wasChanges || told(other) != want {
				t.Fatalf("%s with %s is not new", wasItems, wasChanges)
			}
		}
		keepItems, keepChanges := copiedItems(items), copiedChanges(changes)
		made := leaf.Apply(items, changes)
		overwrite(items)
		for _, c := range changes {
			overwrite([]api.Item{{Key: c.Key, Val: c.Val}})
		}
		clear(changes)
		applies(t, keepItems, keepChanges, made)
	}
}

// No two texts of an answer lie in one memory, though those do that were handed in.
func TestR3NoTwoShare(t *testing.T) {
	b, c := []byte("aabb"), []byte("bbcc")
	items := []api.Item{{Key: b[:1], Val: b[:1]}, {Key: b[:2], Val: b[:2]}, {Key: c[:2], Val: b}}
	l := []api.Change{{Key: b[:3], Val: b}, {Key: c[1:3], Val: c}, {Key: c[2:], Val: c[2:]}}
	want := row("a", "a", "aa", "aa", "aab", "aabb", "bb", "aabb", "bc", "bbcc", "cc", "cc")
	applies(t, items, l, want)
	for i := range 2 * len(want) {
		made := leaf.Apply(items, l)
		one := &made[i/2].Key
		if i%2 == 1 {
			one = &made[i/2].Val
		}
		was := string(*one)
		overwrite([]api.Item{{Key: *one}})
		*one = []byte(was)
		if told(made) != told(want) {
			t.Errorf("%q: %s, not %s", was, told(made), told(want))
		}
	}
}

// Groups are new each time, too.
func TestR3GroupsAreNew(t *testing.T) {
	for n := 1; n < 100; n++ {
		was := leaf.Groups(n)
		clear(was[:cap(was)])
		partsWell(t, n)
	}
}

// nil and an empty list are one.
func TestR3NilAndEmptyAreOne(t *testing.T) {
	none, empty := []api.Item{{Key: []byte("a")}}, []api.Item{{Key: []byte("a"), Val: []byte{}}}
	puts, puts0 := []api.Change{{Key: []byte("b")}}, []api.Change{{Key: []byte("b"), Val: []byte{}}}
	for _, items := range [][]api.Item{none, empty} {
		for _, l := range [][]api.Change{puts, puts0} {
			rises(t, true, l...)
			for _, i := range leaf.Apply(items, l) {
				if i.Val != nil {
					t.Errorf("%q: under it lies what is not as under the others", i.Key)
				}
			}
		}
	}
}

// An answer hangs on what was handed in alone: not on what was asked ahead of
// it or beside it.
func TestR4Same(t *testing.T) {
	items := rowOf(edges()...)
	var wait sync.WaitGroup
	for i := range 8 {
		wait.Go(func() {
			l := lot(i)
			for n := range 1000 {
				changes := drawnChanges(l, drawnKeys(l, 9))
				applies(t, items, changes, plain(items, changes))
				rises(t, true, changes...)
				rises(t, false, put("b", ""), put("a", ""))
				finds(t, items, "a", 6, true)
				partsWell(t, 1+n)
			}
		})
	}
	wait.Wait()
}
