package leaf_test

import (
	"slices"
	"testing"

	"pandect/api"
	"pandect/leaf"
)

func TestP111RisingOfNone(t *testing.T) {
	rises(t, true)
	if !leaf.Rising(nil) || !leaf.Rising([]api.Change{}) {
		t.Error("none at all")
	}
}

// Each length of a key, in each place.
func TestP111RisingKeys(t *testing.T) {
	for n := range 300 {
		key, is := text(n), n >= 1 && n <= mostKey
		for _, c := range []api.Change{put(key, ""), put(key, "v"), put(key, text(mostVal)), out(key)} {
			rises(t, is, c)
		}
	}
	for n := range 300 {
		low, high := string(make([]byte, n)), "\xff"+text(max(n, 1))[1:]
		rises(t, n >= 1 && n <= mostKey, put(low, "v"), put("\x01", "v"))
		rises(t, n >= 1 && n <= mostKey, out(low), put("\x01", "v"), out("\x02"))
		if n > 0 {
			rises(t, n <= mostKey, put("\x01", "v"), put(high, "v"))
			rises(t, n <= mostKey, put("\x01", "v"), out("\x02"), out(high))
			rises(t, n <= mostKey, out("\x01"), put("\x02"+high[1:], "v"), put("\x03", ""))
		}
	}
}

// An empty key is none, wherever it stands.
func TestP111RisingOfEmptyKeys(t *testing.T) {
	for _, key := range [][]byte{nil, {}} {
		for _, out := range []bool{false, true} {
			c := api.Change{Key: key, Out: out}
			rises(t, false, c)
			rises(t, false, c, c)
			rises(t, false, c, put("a", "1"))
			rises(t, false, put("a", "1"), c)
			rises(t, false, put("a", "1"), c, put("b", "1"))
		}
	}
	rises(t, false, api.Change{})
}

// Each length of what lies under a key, in each place.
func TestP111RisingVals(t *testing.T) {
	for n := range 300 {
		c := put("b", text(n))
		for _, l := range [][]api.Change{{c}, {put("a", "1"), c}, {c, out("c")}, {out("a"), c, put("c", "")}, {out("a"), out("aa"), c}} {
			rises(t, n <= mostVal, l...)
		}
	}
	for _, n := range []int{1 << 8, 1<<8 + 1, 1<<16 + 1, 1 << 20} {
		rises(t, false, put("b", text(n)))
	}
}

// What is taken out has none.
func TestP111RisingOuts(t *testing.T) {
	for n := range 300 {
		c := out("b")
		c.Val = []byte(text(n))
		for _, l := range [][]api.Change{{c}, {put("a", "1"), c}, {c, out("c")}, {out("a"), c, put("c", "")}} {
			rises(t, n == 0, l...)
		}
	}
	rises(t, true, api.Change{Key: []byte("a"), Val: []byte{}, Out: true})
	rises(t, true, api.Change{Key: []byte("a"), Val: nil})
}

// Each edge behind each, put or taken out.
func TestP111RisingPairs(t *testing.T) {
	all := edges()
	for i, a := range all {
		for j, b := range all {
			for _, first := range []api.Change{put(a, "1"), out(a)} {
				for _, second := range []api.Change{put(b, "1"), out(b)} {
					rises(t, i < j, first, second)
				}
			}
		}
	}
}

func TestP111RisingBytes(t *testing.T) {
	for a := range 256 {
		for b := range 256 {
			rises(t, a < b, put(string([]byte{byte(a)}), "1"), put(string([]byte{byte(b)}), "1"))
			rises(t, a < b, put(string([]byte{'k', byte(a), 5}), "1"), out(string([]byte{'k', byte(b)})))
		}
	}
}

// Each is above the one ahead, not above the first or the last alone.
func TestP111RisingThrees(t *testing.T) {
	keys := []string{"a", "ab", "b", "c"}
	for _, a := range keys {
		for _, b := range keys {
			for _, c := range keys {
				rises(t, a < b && b < c, putsOf(a, b, c)...)
				rises(t, a < b && b < c, outsOf(a, b, c)...)
			}
		}
	}
}

// One fault in a long row is a fault, wherever it is.
func TestP111RisingOfMany(t *testing.T) {
	keys := many(300)
	rises(t, true, putsOf(keys...)...)
	rises(t, true, outsOf(keys...)...)
	for i := range keys {
		l := putsOf(keys...)
		l[i].Val = []byte(text(mostVal + 1))
		rises(t, false, l...)
		l[i] = api.Change{Key: []byte(keys[i]), Val: []byte("v"), Out: true}
		rises(t, false, l...)
		l[i] = out(keys[i])
		rises(t, true, l...)
		l[i].Key = nil
		rises(t, false, l...)
		if i > 0 {
			l[i] = l[i-1]
			rises(t, false, l...)
			l = outsOf(keys...)
			l[i], l[i-1] = l[i-1], l[i]
			rises(t, false, l...)
		}
	}
	slices.Reverse(keys)
	rises(t, false, putsOf(keys...)...)
	rises(t, true, putsOf(many(100_000)...)...)
}

// The greatest of all, and one more of each.
func TestP111RisingOfTheGreatest(t *testing.T) {
	keys := many(50)
	for i, key := range keys {
		keys[i] = key + text(mostKey-len(key))
	}
	l := putsOf(keys...)
	for i := range l {
		l[i].Val = []byte(text(mostVal))
	}
	rises(t, true, l...)
	for i := range l {
		one := copiedChanges(l)
		one[i].Key = append(one[i].Key, 0)
		rises(t, false, one...)
		one = copiedChanges(l)
		one[i].Val = append(one[i].Val, 0)
		rises(t, false, one...)
	}
}

func TestP111RisingAsThePlainOne(t *testing.T) {
	l, rose := lot(1), 0
	for range 50_000 {
		changes := drawnChanges(l, drawnKeys(l, 6))
		if len(changes) > 0 && l.IntN(2) == 0 {
			spoil(&changes[l.IntN(len(changes))], l.IntN(6), drawnKey(l))
		}
		want := plainRising(changes)
		rises(t, want, changes...)
		if want {
			rose++
		}
	}
	if rose < 20_000 || rose > 45_000 {
		t.Errorf("%d rose", rose)
	}
}

func spoil(c *api.Change, how int, key string) {
	switch how {
	case 0:
		c.Key = nil
	case 1:
		c.Val = []byte(text(mostVal + 1))
	case 2:
		c.Out = !c.Out
	case 3:
		c.Key = []byte(text(mostKey + 1))
	default:
		c.Key = []byte(key)
	}
}
