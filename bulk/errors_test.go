package bulk_test

import (
	"strings"
	"testing"

	"pandect/api"
	"pandect/bulk"
	"pandect/disk"
	"pandect/file"
)

// not: b does not take the items, and asks nothing of the disk.
func not(t *testing.T, d *disk.Disk, b *bulk.Builder, items ...api.Item) {
	t.Helper()
	ops := d.Ops()
	for _, i := range items {
		if e := b.Put(i); e != api.ErrArg {
			t.Fatalf("%s: %d", told([]api.Item{i}), e)
		}
	}
	if d.Ops() != ops {
		t.Fatal("it is asked of the disk")
	}
}

// Whatever may not be put, and wherever it is: nothing has changed, and what comes of
// it is just what would have come of the others alone.
func TestP161ErrArg(t *testing.T) {
	t.Parallel()
	for _, n := range []int{0, 1, 7, 8, 9, 11, 12, 13, 40, 96, 97, 150} {
		keys := numbered(2*n + 1)
		d, f := fresh(t)
		c, g := fresh(t)
		a, b := bulk.New(f), bulk.New(g)
		var items []api.Item
		for i := 1; i < len(keys); i += 2 {
			not(t, c, b, wrong()...)
			items = append(items, item(keys[i], val(keys[i])))
			puts(t, a, items[len(items)-1])
			puts(t, b, items[len(items)-1])
			not(t, c, b, wrong()...)
			not(t, c, b, items...)
			not(t, c, b, item(keys[i], "other"), item(keys[i-1], ""), item(keys[0], ""), item(keys[i][:2], "v"), item(keys[i]+"a", strings.Repeat("v", mostVal+1)))
		}
		not(t, c, b, wrong()...)
		if x, y := done(t, f, a, items), done(t, g, b, items); x != y || text(t, d) != text(t, c) {
			t.Errorf("%d items: %v, %v", n, x, y)
		}
	}
}

// Of each two keys one may come behind the other if it is above that.
func TestP161AboveTheLastOne(t *testing.T) {
	keys := edges()
	for i, low := range keys {
		for j, high := range keys {
			d, f := fresh(t)
			b := bulk.New(f)
			want := itemsOf(low)
			puts(t, b, want...)
			if j > i {
				want = append(want, item(high, "v"))
				puts(t, b, want[1])
			} else {
				not(t, d, b, item(high, "v"))
			}
			done(t, f, b, want)
		}
	}
}

// What was not taken is no last one.
func TestP161AboveTheLastThatWasTaken(t *testing.T) {
	d, f := fresh(t)
	b := bulk.New(f)
	not(t, d, b, item("z", strings.Repeat("v", mostVal+1)))
	puts(t, b, item("a", "1"))
	not(t, d, b, item("z", strings.Repeat("v", mostVal+1)), item(strings.Repeat("z", mostKey+1), ""), item("", ""), item("a", ""))
	puts(t, b, item("b", "2"))
	not(t, d, b, item("a\xff", ""), item("b", ""))
	puts(t, b, item("b\x00", "3"))
	done(t, f, b, []api.Item{item("a", "1"), item("b", "2"), item("b\x00", "3")})
}

// Lengths at the edge of what may be, at each place of a row.
func TestP161Longest(t *testing.T) {
	for n := range 30 {
		d, f := fresh(t)
		b := bulk.New(f)
		items := greatest(n)
		puts(t, b, items...)
		key, most := "\xff"+strings.Repeat("k", mostKey-1), strings.Repeat("w", mostVal)
		not(t, d, b, item(key+"k", most), item(key+"\x00", ""), item(key, most+"w"), item("\xff", most+"w"))
		items = append(items, item(key, most))
		puts(t, b, items[n])
		done(t, f, b, items)
	}
}

func TestP161ErrArgBehindDone(t *testing.T) {
	for _, n := range []int{0, 1, 2, 8, 9, 11, 12, 13, 100} {
		d, f := fresh(t)
		items := itemsOf(numbered(n)...)
		b := bulk.New(f)
		puts(t, b, items...)
		r, e := b.Done()
		fine(t, e)
		was := text(t, d)
		d.Fail(1) // nothing has to be asked of the disk
		ends(t, d, b, api.ErrArg)
		d.Fail(0)
		if text(t, d) != was {
			t.Error("the file is another one")
		}
		holds(t, f, r, items)
	}
}

func TestP161OfANilBuilder(t *testing.T) {
	d, _ := fresh(t)
	ends(t, d, nil, api.ErrArg)
	ends(t, d, &bulk.Builder{}, api.ErrArg)
}

// till puts the items, as many as are taken, then asks for the tree: it tells what the
// first call was told that did not go well, and that each later one is told so too.
func till(t *testing.T, b *bulk.Builder, items []api.Item) api.Errno {
	t.Helper()
	no := api.OK
	for _, i := range items {
		e := b.Put(i)
		if no != api.OK && e != no {
			t.Fatalf("%s: %d, not %d", told([]api.Item{i}), e, no)
		}
		no = e
	}
	r, e := b.Done()
	if no != api.OK && e != no || e != api.OK && r != (api.Ref{}) {
		t.Fatalf("%v, %d, not %d", r, e, no)
	}
	return e
}

// fails: the call in which the operation is done that fails tells it, and none ahead of
// that does.
func fails(t *testing.T, d *disk.Disk, b *bulk.Builder, items []api.Item, at int) {
	t.Helper()
	for n, i := range items {
		e := b.Put(i)
		if failed := d.Ops() >= at; failed != (e == api.ErrIO) || !failed && e != api.OK {
			t.Fatalf("%d: %d, failed: %v", n, e, failed)
		}
	}
	if r, e := b.Done(); r != (api.Ref{}) || e != api.ErrIO || d.Ops() < at {
		t.Fatalf("%v, %d", r, e)
	}
}

// Whichever operation fails, that is told from then on, whatever is asked, and the
// next Builder makes the tree.
func TestP161TheDisksErrors(t *testing.T) {
	t.Parallel()
	for _, n := range []int{1, 2, 8, 9, 11, 12, 13, 19, 20, 21, 64, 70, 95, 96, 97, 104, 150, 800} {
		items := itemsOf(numbered(n)...)
		d, f := fresh(t)
		older := builds(t, d, f, items)
		ops := d.Ops()
		fine(t, till(t, bulk.New(f), items))
		ops = d.Ops() - ops
		for at := 1; at <= ops; at++ {
			b := bulk.New(f)
			d.Fail(at)
			fails(t, d, b, items, d.Ops()+at)
			d.Fail(0)
			ends(t, d, b, api.ErrIO)
		}
		d.Fail(ops + 1)
		fine(t, till(t, bulk.New(f), items))
		d.Fail(0)
		holds(t, f, older, items)
		builds(t, d, f, items)
	}
}

// There is room, or there is a byte too few, or many.
func TestP161ErrFull(t *testing.T) {
	t.Parallel()
	for _, n := range []int{1, 8, 9, 12, 13, 20, 100} {
		items := itemsOf(numbered(n)...)
		d, f := fresh(t)
		want := builds(t, d, f, items)
		need := f.End()
		for less := int64(1); slots <= need-less; less += 1 + less/9 {
			d, f := roomy(t, need-less)
			b := bulk.New(f)
			if e := till(t, b, items); e != api.ErrFull {
				t.Fatalf("%d items, %d bytes too few: %d", n, less, e)
			}
			fine(t, d.Truncate("f", slots)) // room does not help any more
			ends(t, d, b, api.ErrFull)
		}
		d, f = roomy(t, need)
		if got := builds(t, d, f, items); got != want {
			t.Errorf("%v, not %v", got, want)
		}
	}
}

// The file goes, and though it is there again the Builder is of no use any more.
func TestP161OfAFileThatIsGone(t *testing.T) {
	for n := 1; n < 120; n += 7 {
		items := itemsOf(numbered(120)...)
		d, f := fresh(t)
		b := bulk.New(f)
		puts(t, b, items[:n]...)
		fine(t, d.Remove("f"))
		if e := till(t, b, items[n:]); e != api.ErrNone {
			t.Fatalf("%d", e)
		}
		_, e := file.Create(d, "f")
		fine(t, e)
		ends(t, d, b, api.ErrNone)
	}
}

// So does one that lies on no disk: but nothing is asked of it where nothing is laid.
func TestP161OfAFileOfNoDisk(t *testing.T) {
	d, _ := fresh(t)
	for _, f := range []*file.File{nil, {}} {
		for _, n := range []int{1, 8, 12, 100} {
			b := bulk.New(f)
			if e := till(t, b, itemsOf(numbered(n)...)); e != api.ErrArg {
				t.Errorf("%d", e)
			}
			ends(t, d, b, api.ErrArg)
		}
		b := bulk.New(f)
		if r, e := b.Done(); r != (api.Ref{}) || e != api.OK {
			t.Errorf("%v, %d", r, e)
		}
		ends(t, d, b, api.ErrArg)
	}
}

// A disk writes only so far: beyond that its error is told.
func TestP161BeyondTheDisk(t *testing.T) {
	t.Parallel()
	d, f := fresh(t)
	fine(t, d.Truncate("f", 1<<24-5000))
	b := bulk.New(f)
	e := till(t, b, greatest(3000))
	if e == api.OK {
		t.Fatal("it tells a tree")
	}
	ends(t, d, b, e)
}
