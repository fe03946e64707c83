package tree_test

import (
	"slices"
	"strings"
	"testing"

	"pandect/api"
	"pandect/file"
	"pandect/tree"
)

func TestP121GetOfAnEmptyTree(t *testing.T) {
	d, f := fresh(t)
	ops := d.Ops()
	d.Fail(1) // an empty tree lies nowhere, so that nothing is asked of the disk
	for _, key := range []string{"", "a", "\x00", "\xff"} {
		getsNone(t, f, api.Ref{}, key)
	}
	if d.Ops() != ops {
		t.Errorf("%d operations", d.Ops()-ops)
	}
}

func TestP121GetOfALeaf(t *testing.T) {
	_, f := fresh(t)
	one := lay(t, f, letters("m"))
	gets(t, f, one, "m", val("m"))
	getsNone(t, f, one, "l")
	getsNone(t, f, one, "n")
	all := "abcdefghijklmnop"
	for n := 1; n <= fan; n++ {
		var keys []string
		for i := range n {
			keys = append(keys, all[2*i+1:2*i+2])
		}
		r := lay(t, f, leafOf(keys...))
		for i := range all {
			if key := all[i : i+1]; slices.Contains(keys, key) {
				gets(t, f, r, key, val(key))
			} else {
				getsNone(t, f, r, key)
			}
		}
	}
}

// Each kid's first and last key, and what lies ahead of them and behind.
func TestP121GetOfKids(t *testing.T) {
	_, f := fresh(t)
	for n := 2; n <= fan; n++ {
		var kids []*branch
		for i := range n {
			first := 6 * i
			kids = append(kids, leafOf(string(rune(first+'!')), string(rune(first+'"')), string(rune(first+'#')), string(rune(first+'$'))))
		}
		r := lay(t, f, over(kids...))
		for c := '\x1f'; c < rune('!'+6*n); c++ {
			key := string(c)
			if c >= '!' && (c-'!')%6 < 4 {
				gets(t, f, r, key, val(key))
			} else {
				getsNone(t, f, r, key)
			}
			getsNone(t, f, r, key+"\x00")
		}
	}
}

func TestP121GetAsItWasGrown(t *testing.T) {
	l := lot(1)
	for i := range 60 {
		_, f := fresh(t)
		b := drawn(l, 1+i%5)
		r := lay(t, f, b)
		keys := b.keysUnder()
		for _, key := range keys {
			gets(t, f, r, key, val(key))
			for _, other := range around(key) {
				if _, is := slices.BinarySearch(keys, other); !is {
					getsNone(t, f, r, other)
				}
			}
		}
	}
}

// What lies under a key hangs on all of its bytes, how many they are too.
func TestP121GetOfTheGreatest(t *testing.T) {
	long := strings.Repeat("k", mostKey-1)
	first := &branch{kind: nodeKind, items: []api.Item{item("k", "1"), item("kk", ""), item(long, strings.Repeat("v", mostVal)), item(long+"\x00", "2")}}
	last := &branch{kind: nodeKind, items: []api.Item{item(long+"k", "3"), item(long+"l", "4"), item(long+"\xff", strings.Repeat("w", mostVal)), item(strings.Repeat("\xff", mostKey), "5")}}
	_, f, r := right(t, over(first, last), 2)
	for _, b := range []*branch{first, last} {
		for _, i := range b.items {
			gets(t, f, r, string(i.Key), string(i.Val))
			getsNone(t, f, r, string(i.Key)+"\x01")
		}
	}
	getsNone(t, f, r, long+"m")
	getsNone(t, f, r, long[1:])
}

// Under a key that may not be nothing lies.
func TestP121GetOfAKeyThatMayNotBe(t *testing.T) {
	_, f, r := right(t, over(letters("abcd"), letters("efgh")), 2)
	for _, r := range []api.Ref{{}, lay(t, f, letters("a")), r} {
		for _, key := range []string{"", strings.Repeat("a", mostKey+1), strings.Repeat("\x00", 255), strings.Repeat("\xff", 256), strings.Repeat("e", 1<<16)} {
			getsNone(t, f, r, key)
		}
		if val, ok, e := tree.Get(f, r, nil); len(val) != 0 || ok || e != api.OK {
			t.Errorf("%q, %v, %d", val, ok, e)
		}
	}
}

// One file has many trees, and they may have nodes in common.
func TestP121GetOfOlderTrees(t *testing.T) {
	_, f := fresh(t)
	a, b, c := letters("abcd"), letters("efgh"), letters("ijkl")
	older := lay(t, f, over(a, b, c))
	b.items[1].Val = []byte("new")
	newer := lay(t, f, over(a, b, c))
	gets(t, f, older, "f", val("f"))
	gets(t, f, newer, "f", "new")
	for _, r := range []api.Ref{older, newer} {
		gets(t, f, r, "e", val("e"))
		gets(t, f, r, "l", val("l"))
	}
	getsNone(t, f, a.at, "e")
	gets(t, f, a.at, "d", val("d"))
}

// way are the nodes that one comes by on the way to key, from the root on: at each
// one goes on to the last kid whose least key isn't above key.
func way(b *branch, key string) []*branch {
	out := []*branch{b}
	for !b.isLeaf() {
		i := slices.IndexFunc(b.keys, func(k string) bool { return k > key })
		if i < 0 {
			i = len(b.keys)
		}
		if i == 0 {
			return out
		}
		b = b.kids[i-1]
		out = append(out, b)
	}
	return out
}

// A node that is spoiled is told on each way that leads by it, and on no other.
func TestP121GetWhereANodeIsSpoiled(t *testing.T) {
	l := lot(2)
	for high := 1; high <= 3; high++ {
		d, f := fresh(t)
		b := drawn(l, high)
		r := lay(t, f, b)
		for _, bad := range b.all() {
			turn(t, d, bad.at.Off)
			keys := b.keysUnder()
			for _, key := range keys {
				if slices.Contains(way(b, key), bad) {
					unget(t, f, r, key, api.ErrForm)
				} else {
					gets(t, f, r, key, val(key))
				}
				key += "\x01" // no drawn key has such a byte
				if slices.Contains(way(b, key), bad) {
					unget(t, f, r, key, api.ErrForm)
				} else {
					getsNone(t, f, r, key)
				}
			}
			turn(t, d, bad.at.Off)
			gets(t, f, r, keys[0], val(keys[0]))
		}
	}
}

// spoiled are nodes of the keys e to h that are none: their records say something
// else.
func spoiled() map[string]*branch {
	out := map[string]*branch{}
	for name, do := range map[string]func(b *branch){
		"kind 0":                 func(b *branch) { b.kind = 0 },
		"an event's kind":        func(b *branch) { b.kind = 1 },
		"kind 3":                 func(b *branch) { b.kind = 3 },
		"the letter's kind":      func(b *branch) { b.kind = 'L' },
		"kind 255":               func(b *branch) { b.kind = 255 },
		"a bit more kind":        func(b *branch) { b.kind = nodeKind | 128 },
		"another letter":         func(b *branch) { b.letter = "M" },
		"an inner node's letter": func(b *branch) { b.letter = "N" },
		"a small letter":         func(b *branch) { b.letter = "l" },
		"more behind it":         func(b *branch) { b.behind = "\x00" },
		"no letter":              func(b *branch) { b.letter = "\x04" },
		"too many items":         func(b *branch) { b.items = letters("efghijklm").items },
		"keys that fall":         func(b *branch) { b.items[3], b.items[2] = b.items[2], b.items[3] },
		"a key twice":            func(b *branch) { b.items[3] = b.items[2] },
		"an empty key":           func(b *branch) { b.items[0].Key = nil },
		"too long a key":         func(b *branch) { b.items[3].Key = []byte(strings.Repeat("h", mostKey+1)) },
		"too long a val":         func(b *branch) { b.items[0].Val = []byte(strings.Repeat("v", mostVal+1)) },
	} {
		b := letters("efgh")
		do(b)
		out[name] = b
	}
	return out
}

func TestP121GetWhereANodeIsNone(t *testing.T) {
	for name, bad := range spoiled() {
		_, f := fresh(t)
		good := letters("abcd")
		b := &branch{kind: nodeKind, kids: []*branch{good, bad}, keys: []string{"a", "e"}}
		r := lay(t, f, b)
		gets(t, f, r, "b", val("b"))
		getsNone(t, f, r, "dd")
		for _, key := range []string{"e", "f", "h", "i", "\xff"} {
			unget(t, f, r, key, api.ErrForm)
			unget(t, f, bad.at, key, api.ErrForm)
		}
		if t.Failed() {
			t.Fatal(name)
		}
	}
}

func TestP121GetWhereNoRecordBegins(t *testing.T) {
	d, f, r := right(t, over(letters("abcd"), letters("efgh")), 2)
	ops := d.Ops()
	for _, off := range []int64{-1 << 63, -1, 1, 5, slots - 1, f.End(), f.End() + 1, 1 << 24, 1 << 40, 1<<63 - 1} {
		unget(t, f, api.Ref{Off: off, Count: 8}, "a", api.ErrForm)
	}
	if d.Ops() != ops {
		t.Error("it is asked of the disk")
	}
	unget(t, f, api.Ref{Count: 1}, "a", api.ErrForm)
	unget(t, f, api.Ref{Off: r.Off + 1, Count: 8}, "a", api.ErrForm)
	unget(t, f, api.Ref{Off: r.Off - 1, Count: 8}, "a", api.ErrForm)
	_, f = fresh(t)
	unget(t, f, api.Ref{Off: slots, Count: 8}, "a", api.ErrForm)
}

// What is there is a node, but not one of so many items.
func TestP121GetOfAnotherCount(t *testing.T) {
	_, f, r := right(t, over(letters("abcd"), letters("efgh")), 2)
	for _, count := range []uint64{0, 1, 2, 4, 7, 9, 16, 1 << 40, 1<<32 + 8, 1<<64 - 1} {
		unget(t, f, api.Ref{Off: r.Off, Count: count}, "a", api.ErrForm)
	}
}

// Whichever operation fails: that is told, and the next time all is as it was.
func TestP121GetTellsTheDisksErrors(t *testing.T) {
	l := lot(3)
	for high := 1; high <= 4; high++ {
		d, f := fresh(t)
		b := drawn(l, high)
		r := lay(t, f, b)
		for _, key := range b.keysUnder() {
			ops := d.Ops()
			gets(t, f, r, key, val(key))
			ops = d.Ops() - ops
			for n := 1; n <= ops; n++ {
				d.Fail(n)
				unget(t, f, r, key, api.ErrIO)
			}
			d.Fail(ops + 1)
			gets(t, f, r, key, val(key))
			d.Fail(0)
		}
	}
}

func TestP121GetOfAFileThatIsNotThere(t *testing.T) {
	d, f, r := right(t, over(letters("abcd"), letters("efgh")), 2)
	if e := d.Remove("f"); e != api.OK {
		t.Fatal(e)
	}
	unget(t, f, r, "a", api.ErrNone)
	getsNone(t, f, api.Ref{}, "a")
	for _, f := range []*file.File{nil, {}} {
		unget(t, f, r, "a", api.ErrArg)
		getsNone(t, f, api.Ref{}, "a")
	}
}
