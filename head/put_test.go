package head_test

import (
	"math"
	"slices"
	"strings"
	"testing"

	"pandect/api"
	"pandect/head"
)

func TestP81Example(t *testing.T) {
	if api.MaxData != mostData {
		t.Fatal("data are others than these tests'")
	}
	if b := head.PutOff(1); !slices.Equal(b, []byte{0, 0, 0, 0, 0, 0, 0, 1}) {
		t.Errorf("%v", b)
	}
}

// One of each, laid by hand.
func TestP81Layout(t *testing.T) {
	const next, first = 0x1112131415161718, 0x0102030405060708
	low, high := "\x01\x02\x03\x04\x05\x06\x07\x08", "\x11\x12\x13\x14\x15\x16\x17\x18"
	for _, x := range []struct {
		b    []byte
		want string
	}{
		{head.PutHead(api.Head{Next: next, First: first}), high + low + "\x00"},
		{head.PutHead(api.Head{Next: next, First: first, Tomb: true}), high + low + "\x01"},
		{head.PutDone(api.Done{First: first, Count: 0x1213}), low + "\x12\x13"},
		{head.PutMark(api.Mark{At: next, Data: []byte("what was")}), high + "what was"},
		{head.PutMark(api.Mark{At: next}), high},
		{head.PutOff(first), low},
	} {
		if string(x.b) != x.want {
			t.Errorf("%q, not %q", x.b, x.want)
		}
	}
}

// What follows: what is put is taken.
func TestP8WhatIsPutIsTaken(t *testing.T) {
	for _, k := range kinds() {
		k.isPut(t)
	}
}

func TestP81WhatMayNotBe(t *testing.T) {
	for _, k := range kinds() {
		k.isNotPut(t)
	}
}

// Each head of small numbers.
func TestP81EachSmallHead(t *testing.T) {
	k := heads()
	for next := int64(-4); next < 70; next++ {
		for first := int64(-4); first < 70; first++ {
			for _, tomb := range []bool{false, true} {
				h := api.Head{Next: next, First: first, Tomb: tomb}
				if first < 0 || first > next {
					k.mayNot(t, h)
					k.isNone(t, []byte(k.laid(h)))
				} else {
					k.may(t, h)
				}
			}
		}
	}
	h := api.Head{Next: math.MinInt64, First: math.MaxInt64}
	k.mayNot(t, h)
	k.mayNot(t, api.Head{Next: h.First, First: h.Next})
}

// Each count that there is, and those beside them.
func TestP81EachCount(t *testing.T) {
	k := dones()
	for count := -1000; count < 1<<17+1000; count++ {
		d := api.Done{First: int64(count) & 0xffff, Count: count}
		if count < 1 || count > mostCount {
			k.mayNot(t, d)
		} else {
			k.may(t, d)
		}
	}
	for i := 17; i < 63; i++ {
		for _, more := range []int{-1, 0, 1, 2, mostCount} {
			k.mayNot(t, api.Done{First: 1, Count: 1<<i + more})
			k.mayNot(t, api.Done{First: 1, Count: -1<<i + more})
		}
	}
	for _, count := range []int{math.MinInt, math.MinInt + 1, math.MaxInt} {
		k.mayNot(t, api.Done{Count: count})
	}
}

// What was done again has no bytes, whatever else it says.
func TestP81Again(t *testing.T) {
	k := dones()
	for _, d := range k.some {
		d.Again = true
		k.mayNot(t, d)
		if took, e := head.TakeDone([]byte(k.laid(d))); e != api.OK || took.Again {
			t.Errorf("%+v, %d", took, e)
		}
	}
}

func TestP81EachLengthOfData(t *testing.T) {
	k := marks()
	for n := range 600 {
		m := api.Mark{At: int64(n), Data: drawn(n)}
		if n > mostData {
			k.mayNot(t, m)
			k.isNone(t, []byte(k.laid(m)))
		} else {
			k.may(t, m)
		}
	}
	for _, nothing := range [][]byte{nil, {}, []byte("not this")[:0]} {
		k.may(t, api.Mark{At: 9, Data: nothing})
	}
}

func TestP81EachByteOfData(t *testing.T) {
	k := marks()
	for c := range 256 {
		for _, n := range []int{1, 2, mostData} {
			k.may(t, api.Mark{Data: []byte(strings.Repeat(string([]byte{byte(c)}), n))})
		}
	}
}

// What they are put as lies under a key.
func TestP81NoneIsTooLong(t *testing.T) {
	for _, k := range kinds() {
		for _, b := range k.bytes() {
			if len(b) > api.MaxVal {
				t.Errorf("%s: %d bytes", k.name(), len(b))
			}
		}
	}
}
