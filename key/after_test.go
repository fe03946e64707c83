package key_test

import (
	"bytes"
	"cmp"
	"slices"
	"strings"
	"testing"

	"pandect/key"
)

func TestP61After(t *testing.T) {
	for k, want := range map[string]string{
		"":                                      "",
		"\x00":                                  "\x01",
		"a":                                     "b",
		"ab":                                    "ac",
		"a\x00":                                 "a\x01",
		"a\xfe":                                 "a\xff",
		"\xff":                                  "",
		"\xff\xff\xff":                          "",
		"a\xff":                                 "b",
		"a\xff\xff":                             "b",
		"a\xffb":                                "a\xffc",
		"a\xffb\xff":                            "a\xffc",
		"\xff\x00":                              "\xff\x01",
		"\xff\x00\xff\xff":                      "\xff\x01",
		"\xfe\xff":                              "\xff",
		"\x7f":                                  "\x80",
		strings.Repeat("\xff", 40):              "",
		"a" + strings.Repeat("\xff", 1<<16):     "b",
		strings.Repeat("\xff", 1<<16) + "a":     strings.Repeat("\xff", 1<<16) + "b",
		strings.Repeat("a", 1<<16) + "\xff\xff": strings.Repeat("a", 1<<16-1) + "b",
	} {
		if got := key.After([]byte(k)); string(got) != want {
			t.Errorf("%.40q: %.40q, not %.40q", k, got, want)
		}
	}
	if got := key.After(nil); len(got) != 0 {
		t.Errorf("nil: %q", got)
	}
}

func TestP61AfterOfEachByte(t *testing.T) {
	for c := range 255 {
		says(t, "After", key.After([]byte{byte(c)}), string([]byte{byte(c + 1)}))
		says(t, "After", key.After([]byte{5, byte(c), 255}), string([]byte{5, byte(c + 1)}))
	}
}

// shorts are all keys of at most n bytes out of some.
func shorts(n int) []string {
	out, last := []string{""}, []string{""}
	for range n {
		var next []string
		for _, s := range last {
			for _, c := range []string{"\x00", "\x01", "a", "\xfe", "\xff"} {
				next = append(next, s+c)
			}
		}
		out, last = append(out, next...), next
	}
	return out
}

// The least key above all that begin with k: what is from it on is just what
// is above k and does not begin with k.
func TestP61AfterIsTheLeastAboveAll(t *testing.T) {
	for _, k := range shorts(3) {
		after := key.After([]byte(k))
		for _, s := range shorts(4) {
			above := s > k && !strings.HasPrefix(s, k)
			if from := len(after) > 0 && s >= string(after); from != above {
				t.Fatalf("%q: %q is on the wrong side of %q", k, s, after)
			}
		}
	}
}

// From a name and its nought to what is after that lie its keys, and no others.
func TestP61AfterANameLieTheOthers(t *testing.T) {
	for _, k := range ofBoth() {
		for _, s := range names() {
			from := []byte(s + "\x00")
			to := key.After(from)
			for _, other := range names() {
				for _, n := range []int64{0, 1, 1<<63 - 1} {
					b := k.put(other, n)
					if in := bytes.Compare(b, from) >= 0 && bytes.Compare(b, to) < 0; in != (other == s) {
						t.Errorf("%q among those of %q: %v", b, s, in)
					}
				}
			}
		}
	}
}

// What follows: keys rise as names, then numbers do.
func TestP6KeysRise(t *testing.T) {
	type pair struct {
		name string
		n    int64
	}
	var pairs []pair
	for _, s := range names() {
		for _, n := range []int64{0, 1, 255, 256, 1 << 32, 1<<63 - 1} {
			pairs = append(pairs, pair{s, n})
		}
	}
	for _, k := range ofBoth() {
		for _, p := range pairs {
			for _, q := range pairs {
				want := cmp.Or(strings.Compare(p.name, q.name), cmp.Compare(p.n, q.n))
				if got := bytes.Compare(k.put(p.name, p.n), k.put(q.name, q.n)); got != want {
					t.Fatalf("%s: %v, %v: %d, not %d", k.what, p, q, got, want)
				}
			}
		}
	}
}

func TestP6NumbersRise(t *testing.T) {
	rising := numbers()
	slices.Sort(rising)
	rising = slices.Compact(rising)
	for i, n := range rising {
		for j, m := range rising {
			if got := bytes.Compare(key.Seq(n), key.Seq(m)); got != cmp.Compare(i, j) {
				t.Errorf("%d, %d: %d", n, m, got)
			}
		}
	}
}

// The four kinds of a name alone lie in one tree or another, and none is taken
// for another.
func TestP6NamesRiseInEachKind(t *testing.T) {
	for _, k := range ofNames() {
		for _, s := range names() {
			for _, o := range names() {
				if got := bytes.Compare(k.put(s), k.put(o)); got != strings.Compare(s, o) {
					t.Errorf("%s: %q, %q: %d", k.what, s, o, got)
				}
			}
			for _, other := range ofNames() {
				if (string(k.put(s)) == string(other.put(s))) != (k.what == other.what) {
					t.Errorf("%s, %s of %q", k.what, other.what, s)
				}
			}
		}
	}
}
