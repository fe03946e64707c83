package bulk_test

import (
	"bytes"
	"strings"
	"testing"

	"pandect/api"
	"pandect/bulk"
	"pandect/file"
	"pandect/node"
	"pandect/reach"
)

// In whatever order it is asked, of whatever file, and whatever the disk says.
func TestR1NonePanics(t *testing.T) {
	t.Parallel()
	l := lot(5)
	odd := append(wrong(), itemsOf(edges()...)...)
	for round := range 600 {
		d, f := fresh(t)
		b := []*bulk.Builder{bulk.New(f), bulk.New(f), bulk.New(f), bulk.New(nil), bulk.New(&file.File{}), {}, nil}[round%7]
		last := 0
		for range l.IntN(200) {
			switch l.IntN(40) {
			case 0:
				b.Done()
			case 1:
				d.Fail(1 + l.IntN(5))
			case 2:
				d.Truncate("f", int64(l.IntN(300)))
			case 3, 4:
				b.Put(odd[l.IntN(len(odd))])
			case 5:
				d.Crash([]byte{byte(l.IntN(256)), byte(l.IntN(256))})
			default:
				last += l.IntN(3)
				b.Put(item(string([]byte{byte(last >> 8), byte(last)}), strings.Repeat("v", l.IntN(130))))
			}
		}
		b.Done()
		if e := b.Put(item("\xff\xff\xff", "")); e == api.OK {
			t.Fatal("it takes more behind Done")
		}
	}
}

// withRoom is the item in memory that goes on behind what it has.
func withRoom(i api.Item) (api.Item, []byte) {
	room := append(append(append(make([]byte, 0, 400), i.Key...), i.Val...), "spare room"...)
	n := len(i.Key)
	return api.Item{Key: room[:n], Val: room[n : n+len(i.Val)]}, room
}

func TestR3WhatIsHandedInIsNeitherChangedNorKept(t *testing.T) {
	l := lot(6)
	for n := range 150 {
		d, f := fresh(t)
		items := itemsOf(drawnKeys(l, 1+2*n, 6)...)
		b := bulk.New(f)
		for _, i := range items {
			handed, room := withRoom(i)
			was := string(room)
			puts(t, b, handed)
			if string(room) != was {
				t.Fatalf("%q became %q", was, room)
			}
			copy(room, bytes.Repeat([]byte{'#'}, len(room)))
			handed.Key[0] = 0xff // the last key is not the one that was handed in
		}
		not(t, d, b, wrong()...)
		done(t, f, b, items)
	}
}

// One item's memory may serve all of them.
func TestR3OneBuffer(t *testing.T) {
	d, f := fresh(t)
	b := bulk.New(f)
	buffer := []byte{0, 0, 0}
	var items []api.Item
	for _, key := range numbered(500) {
		copy(buffer, key)
		puts(t, b, api.Item{Key: buffer, Val: buffer[1:]})
		not(t, d, b, api.Item{Key: buffer})
		items = append(items, item(key, key[1:]))
	}
	done(t, f, b, items)
}

func TestR3NilAndAnEmptyListAreOne(t *testing.T) {
	d, f := fresh(t)
	c, g := fresh(t)
	a, b := bulk.New(f), bulk.New(g)
	for _, key := range numbered(100) {
		puts(t, a, api.Item{Key: []byte(key)})
		puts(t, b, api.Item{Key: []byte(key), Val: []byte{}})
	}
	x, _ := a.Done()
	y, _ := b.Done()
	if x != y || text(t, d) != text(t, c) {
		t.Errorf("%v, %v", x, y)
	}
}

// The same, done again, comes to the same bytes: on another disk, through another
// File, and whatever was asked in between.
func TestR4Same(t *testing.T) {
	l := lot(7)
	odd := wrong()
	for n := range 60 {
		d, f := fresh(t)
		c, g := fresh(t)
		for range 3 {
			g, e := file.Open(c, g.Name())
			fine(t, e)
			items := itemsOf(drawnKeys(l, 1+4*n, 6)...)
			a, b := bulk.New(f), bulk.New(g)
			for _, i := range items {
				puts(t, a, i)
				not(t, c, b, odd...)
				puts(t, b, i)
				reach.List(g, api.Ref{Off: slots, Count: 1}, nil, nil, 5, true)
				bulk.New(g).Put(i)
			}
			x, y := done(t, f, a, items), done(t, g, b, items)
			if x != y || text(t, d) != text(t, c) {
				t.Fatalf("%v, %v", x, y)
			}
		}
	}
}

// What a tree takes of a file is no more than W4's number for each item, however many
// there are and however long.
func TestW4FewBytes(t *testing.T) {
	t.Parallel()
	const mostForEach = 200
	for n := range 1000 {
		d, f := fresh(t)
		b := bulk.New(f)
		puts(t, b, greatest(n)...)
		_, e := b.Done()
		fine(t, e)
		if size, _ := d.Size("f"); size > slots+mostForEach*int64(n) {
			t.Fatalf("%d items: %d bytes", n, size-slots)
		}
	}
}

// What was put is in the file, but for some few: no more than that is kept.
func TestFewAreKept(t *testing.T) {
	_, f := fresh(t)
	b := bulk.New(f)
	laid := 0
	for n, i := range greatest(5000) {
		end := f.End()
		puts(t, b, i)
		for _, off := range appended(t, f, end) {
			_, body, e := f.Read(off)
			fine(t, e)
			made, e := node.Take(body)
			fine(t, e)
			laid += len(made.Items)
		}
		if kept := n + 1 - laid; kept >= fan+least {
			t.Fatalf("%d of %d are kept", kept, n+1)
		}
	}
}

// Nodes are so full that no tree of these items has fewer.
func TestAsFewNodesAsMayBe(t *testing.T) {
	keys := numbered(700)
	for n := range keys {
		want, row := min(n, 1), n // the root, where there is one
		for row > fan {
			row = (row + fan - 1) / fan
			want += row
		}
		d, f := fresh(t)
		if builds(t, d, f, itemsOf(keys[:n]...)); len(appended(t, f, slots)) != want {
			t.Errorf("%d items: %d nodes, not %d", n, len(appended(t, f, slots)), want)
		}
	}
}
