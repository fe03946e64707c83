package key_test

import (
	"bytes"
	"slices"
	"strings"
	"sync"
	"testing"

	"pandect/key"
)

// all asks each call that tells a key for one.
func all(name string, n int64) [][]byte {
	return [][]byte{key.Stream(name, n), key.Seq(n), key.Type(name, n), key.Head(name), key.ID(name), key.Snap(name), key.Point(name), key.After([]byte(name))}
}

// Whatever is handed in, however long.
func TestR1NonePanics(t *testing.T) {
	long := strings.Repeat("a", 1<<24)
	for _, s := range []string{"", long, long + "\x00" + eight(1), strings.Repeat("\x00", 1<<20), strings.Repeat("\xff", 1<<20)} {
		if key.MayName(s) {
			t.Errorf("%d bytes may be a name", len(s))
		}
		for _, b := range [][]byte{key.Stream(s, 1), key.Type(s, 1), key.Head(s), key.ID(s), key.Snap(s), key.Point(s)} {
			says(t, "a key", b, "")
		}
		for _, k := range ofBoth() {
			if name, n, ok := k.take([]byte(s)); name != "" || n != 0 || ok {
				t.Errorf("Take%s of %d bytes: %q, %d, %v", k.what, len(s), name, n, ok)
			}
		}
		key.After([]byte(s))
	}
}

func TestR3WhatIsHandedInStays(t *testing.T) {
	for _, in := range []string{laid("name", 258), laid("name", -1), "name\xff\xff", "\xff\xff\xff", "a\xffb"} {
		room := []byte(in + "spare room")
		for n := range len(in) + 1 {
			key.After(room[:n])
			key.After(room[:n:n])
			key.TakeStream(room[:n])
			key.TakeType(room[:n])
		}
		if string(room) != in+"spare room" {
			t.Errorf("%q became %q", in, room)
		}
	}
}

func TestR3WhatIsToldIsNew(t *testing.T) {
	want := all("name", 258)
	for i, b := range want {
		want[i] = slices.Clone(b)
	}
	told := all("name", 258)
	for i, b := range told {
		_ = append(b, "####"...)
		clear(b[:cap(b)])
		for j := i + 1; j < len(told); j++ {
			says(t, "beside one that was changed", told[j], string(want[j]))
		}
		for j, again := range all("name", 258) {
			says(t, "behind one that was changed", again, string(want[j]))
		}
	}
}

func TestR3AfterSharesNothing(t *testing.T) {
	for _, s := range []string{"a", "ab", "ab\xff", "a\xff\xff"} {
		in := []byte(s + "spare room")
		after := key.After(in[:len(s)])
		want := string(after)
		clear(in)
		says(t, "After", after, want)
		copy(in, s+"spare room")
		_ = append(after, "####"...)
		clear(after[:cap(after)])
		says(t, "what was handed in", in, s+"spare room")
	}
}

func TestR3ANameThatIsTakenStays(t *testing.T) {
	for _, k := range ofBoth() {
		in := []byte(laid("name", 3))
		name, _, _ := k.take(in)
		clear(in)
		if name != "name" {
			t.Errorf("Take%s kept what was handed in: %q", k.what, name)
		}
	}
}

// An answer hangs on what was handed in alone: not on what was asked ahead of
// it or beside it.
func TestR4Same(t *testing.T) {
	want := all("name", 7)
	var wait sync.WaitGroup
	for range 8 {
		wait.Go(func() {
			for range 100 {
				all("other", 9)
				key.Stream("", -1)
				key.TakeStream([]byte("none"))
				if !slices.EqualFunc(all("name", 7), want, bytes.Equal) {
					t.Error("the same was told otherwise")
				}
				for _, k := range ofBoth() {
					k.takes(t, laid("name", 7), "name", 7)
				}
			}
		})
	}
	wait.Wait()
}
