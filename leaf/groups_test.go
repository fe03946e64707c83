package leaf_test

import (
	"slices"
	"testing"

	"pandect/api"
	"pandect/leaf"
)

func parts(t *testing.T, n int, want ...int) {
	t.Helper()
	if got := leaf.Groups(n); !slices.Equal(got, want) {
		t.Errorf("%d: %v, not %v", n, got, want)
	}
}

// partsWell: the groups of n are what the document says, each asked for by itself.
func partsWell(t *testing.T, n int) {
	t.Helper()
	groups, all := leaf.Groups(n), 0
	for i, g := range groups {
		all += g
		if g > fan || g < 1 || i > 0 && g > groups[i-1] {
			t.Fatalf("%d: group %d is %d", n, i, g)
		}
	}
	if all != n {
		t.Fatalf("%d: %d in all", n, all)
	}
	if (len(groups)-1)*fan >= n {
		t.Fatalf("%d: in %d groups", n, len(groups))
	}
	if slices.Max(groups)-slices.Min(groups) > 1 {
		t.Fatalf("%d: from %d to %d", n, slices.Min(groups), slices.Max(groups))
	}
}

func TestP111GroupsExample(t *testing.T) {
	if api.Fan != fan || api.Least != least {
		t.Fatal("leaves are others than these tests'")
	}
	parts(t, 9, 5, 4)
}

func TestP111Groups(t *testing.T) {
	for n := 1; n <= fan; n++ {
		parts(t, n, n)
	}
	parts(t, 10, 5, 5)
	parts(t, 11, 6, 5)
	parts(t, 12, 6, 6)
	parts(t, 13, 7, 6)
	parts(t, 15, 8, 7)
	parts(t, 16, 8, 8)
	parts(t, 17, 6, 6, 5)
	parts(t, 18, 6, 6, 6)
	parts(t, 19, 7, 6, 6)
	parts(t, 23, 8, 8, 7)
	parts(t, 24, 8, 8, 8)
	parts(t, 25, 7, 6, 6, 6)
	parts(t, 26, 7, 7, 6, 6)
	parts(t, 27, 7, 7, 7, 6)
	parts(t, 33, 7, 7, 7, 6, 6)
	parts(t, 41, 7, 7, 7, 7, 7, 6)
}

func TestP111GroupsOfNone(t *testing.T) {
	for n := range 300 {
		parts(t, -n)
	}
	for bit := range 63 {
		parts(t, -1<<bit)
		parts(t, -1<<bit-1)
	}
	parts(t, -1<<63)
	parts(t, -1<<63+1)
}

func TestP111GroupsOfEach(t *testing.T) {
	for n := 1; n <= 5000; n++ {
		partsWell(t, n)
	}
}

// As far as anything is promised.
func TestP111GroupsOfMany(t *testing.T) {
	for bit := 3; bit < 20; bit++ {
		for n := 1<<bit - 5; n <= 1<<bit+fan+5; n++ {
			if n > 0 {
				partsWell(t, n)
				partsWell(t, n*3/2)
			}
		}
	}
	for n := mostParted - 2*fan; n <= mostParted; n++ {
		partsWell(t, n)
	}
	groups := leaf.Groups(mostParted)
	if len(groups) != mostParted/fan || slices.Min(groups) != fan {
		t.Errorf("%d groups", len(groups))
	}
}

// What follows.
func TestP11GroupsAreLeastAtLeast(t *testing.T) {
	for n := fan + 1; n <= 5000; n++ {
		if groups := leaf.Groups(n); len(groups) < 2 || slices.Min(groups) < least {
			t.Fatalf("%d: %v", n, groups)
		}
	}
	for n := 1; n <= fan; n++ {
		if groups := leaf.Groups(n); len(groups) != 1 {
			t.Fatalf("%d: %v", n, groups)
		}
	}
}

// How much more is asked for, there is an end to it.
func TestR1GroupsOfTooMany(t *testing.T) {
	for bit := 20; bit < 63; bit++ {
		for more := range 10 {
			leaf.Groups(1<<bit + more)
			leaf.Groups(1<<bit - more)
		}
	}
	for less := range 20 {
		leaf.Groups(1<<63 - 1 - less)
		leaf.Groups(-1<<63 + less)
	}
}
