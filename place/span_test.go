package place_test

import (
	"testing"

	"pandect/place"
)

// bounds are keys of two letters, and some that end or begin as they do.
func bounds() []string {
	return []string{"", "\x00", "a", "a\x00", "b", "ba", "b\xff", "c", "m", "\xff", "\xff\xff"}
}

// spans calls do with each span there is between these bounds, and what is asked of
// its keys in plain words.
func spans(do func(s place.Span, has func(key string) bool)) {
	for _, to := range bounds() {
		do(place.Below([]byte(to)), func(key string) bool { return key < to })
		for _, from := range bounds() {
			do(place.Between([]byte(from), []byte(to)), func(key string) bool { return key >= from && (to == "" || key < to) })
		}
	}
}

func TestSpanHas(t *testing.T) {
	spans(func(s place.Span, has func(key string) bool) {
		for _, key := range append(bounds(), "az", "bb", "l\xff", "m\x00", "zz") {
			if s.Has([]byte(key)) != has(key) {
				t.Errorf("%v: %q: not %v", s, key, has(key))
			}
		}
	})
}

// kidsKeys are the keys that may be asked for, of those that may lie at a place: of
// all texts of two bytes that are of these, which are more than the bounds.
func kidsKeys(least, bound string) []string {
	letters := "\x00\x01abcdlmn\xfe\xff"
	var out []string
	take := func(key string) {
		if key >= least && (bound == "" || key < bound) {
			out = append(out, key)
		}
	}
	for _, a := range []byte(letters) {
		take(string([]byte{a}))
		for _, b := range []byte(letters) {
			take(string([]byte{a, b}))
			take(string([]byte{a, b, 0}))
		}
	}
	return out
}

// What lies at a place has its least key for sure, and may have the others.
func TestSpanMeetsAndHolds(t *testing.T) {
	kids := place.Root().Kids(innerOf("abm"))
	for i, at := range []struct{ least, bound string }{{"a", "b"}, {"b", "m"}, {"m", ""}} {
		keys := kidsKeys(at.least, at.bound)
		spans(func(s place.Span, has func(key string) bool) {
			some, all := false, true
			for _, key := range keys {
				some, all = some || has(key), all && has(key)
			}
			if s.Holds(kids[i]) != all || s.Meets(kids[i]) && !some && !falls(has) || some && !s.Meets(kids[i]) {
				t.Errorf("%v of %v: meets %v (%v), holds %v (%v)", s, at, s.Meets(kids[i]), some, s.Holds(kids[i]), all)
			}
		})
	}
}

// falls tells whether there is nothing in a span at all.
func falls(has func(key string) bool) bool {
	for _, key := range kidsKeys("", "") {
		if has(key) {
			return false
		}
	}
	return true
}
