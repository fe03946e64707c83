package place_test

import (
	"strings"
	"testing"

	"pandect/api"
	"pandect/disk"
	"pandect/file"
	"pandect/node"
	"pandect/place"
)

const (
	least    = 4
	mostDeep = 22
)

func leafOf(keys string) api.Node {
	n := api.Node{Leaf: true}
	for _, key := range strings.Split(keys, "") {
		n.Items = append(n.Items, api.Item{Key: []byte(key)})
	}
	return n
}

// innerOf has kids that lie nowhere.
func innerOf(keys string) api.Node {
	var n api.Node
	for _, key := range strings.Split(keys, "") {
		n.Keys, n.Kids = append(n.Keys, []byte(key)), append(n.Kids, api.Ref{Off: 1, Count: least})
	}
	return n
}

func written(t *testing.T, f *file.File, kind byte, body []byte) int64 {
	t.Helper()
	at, e := f.Append(kind, body)
	if e != api.OK {
		t.Fatal(e)
	}
	return at
}

func TestRead(t *testing.T) {
	d := disk.New(1 << 16)
	f, _ := file.Create(d, "f")
	for _, n := range []api.Node{leafOf("a"), leafOf("abcdefgh"), innerOf("ab"), innerOf("abcdefgh")} {
		r := api.Ref{Off: written(t, f, place.NodeKind, node.Put(n)), Count: node.Count(n)}
		if got, e := place.Root().Read(f, r); !node.Same(got, n) || e != api.OK {
			t.Errorf("%v, %d, not %v", got, e, n)
		}
		for _, bad := range []api.Ref{
			{Off: r.Off, Count: r.Count + 1}, {Off: r.Off, Count: r.Count - 1}, {Off: r.Off}, {Off: r.Off + 1, Count: r.Count}, {Count: r.Count}, {},
			{Off: written(t, f, 1, node.Put(n)), Count: r.Count}, {Off: written(t, f, 3, node.Put(n)), Count: r.Count},
			{Off: written(t, f, 2, append(node.Put(n), 0)), Count: r.Count}, {Off: written(t, f, 2, nil)},
		} {
			if got, e := place.Root().Read(f, bad); !node.Same(got, api.Node{}) || e != api.ErrForm {
				t.Errorf("%v: %v, %d", bad, got, e)
			}
		}
		d.Fail(1)
		if got, e := place.Root().Read(f, r); !node.Same(got, api.Node{}) || e != api.ErrIO {
			t.Errorf("%v, %d", got, e)
		}
		if got, e := place.Root().Read(nil, r); !node.Same(got, api.Node{}) || e != api.ErrArg {
			t.Errorf("%v, %d", got, e)
		}
	}
}

// A node that lies deeper than any of a right tree is none.
func TestReadHowDeep(t *testing.T) {
	f, _ := file.Create(disk.New(1<<16), "f")
	n := innerOf("abcd")
	r := api.Ref{Off: written(t, f, place.NodeKind, node.Put(n)), Count: node.Count(n)}
	p := place.Root()
	for deep := 1; deep <= mostDeep+3; deep++ {
		want := api.OK
		if deep > mostDeep {
			want = api.ErrForm
		}
		if got, e := p.Read(f, r); p.Deep() != deep || e != want || node.Same(got, n) != (e == api.OK) {
			t.Errorf("%d, %d: %v, %d", deep, p.Deep(), got, e)
		}
		p = p.Kids(n)[deep%4]
	}
}

// kept: at p lies n, which keeps to its place or not.
func kept(t *testing.T, f *file.File, p place.Place, n api.Node, keeps bool) {
	t.Helper()
	r := api.Ref{Off: written(t, f, place.NodeKind, node.Put(n)), Count: node.Count(n)}
	want, no := n, api.OK
	if !keeps {
		want, no = api.Node{}, api.ErrForm
	}
	if got, e := p.Kept(f, r); !node.Same(got, want) || e != no {
		t.Errorf("%v: %v, %d", n, got, e)
	}
	if got, e := p.Read(f, r); !node.Same(got, n) || e != api.OK {
		t.Errorf("%v: it reads %v, %d", n, got, e)
	}
}

func TestKept(t *testing.T) {
	f, _ := file.Create(disk.New(1<<16), "f")
	for _, n := range []api.Node{leafOf("a"), leafOf("abcdefgh"), innerOf("ab"), innerOf("yz")} {
		kept(t, f, place.Root(), n, true)
	}
	// the places of the kids of a kid that is not the last one
	kids := place.Root().Kids(innerOf("cz"))[0].Kids(innerOf("chm"))
	for i, want := range []struct{ may, not []string }{
		{[]string{"cdef", "cdefg", "cefg"}, []string{"cd", "cde", "bcde", "defg", "cdeh", "cdei"}},
		{[]string{"hijk", "hijkl"}, []string{"hi", "hij", "ghij", "ijkl", "hijm", "hijz"}},
		{[]string{"mnop", "mwxy", "mnopqrst"}, []string{"mn", "mno", "lmno", "nopq", "mnoz", "mno~"}},
	} {
		for _, keys := range want.may {
			kept(t, f, kids[i], leafOf(keys), true)
			kept(t, f, kids[i], innerOf(keys), true)
		}
		for _, keys := range want.not {
			kept(t, f, kids[i], leafOf(keys), false)
			kept(t, f, kids[i], innerOf(keys), false)
		}
	}
	last := place.Root().Kids(innerOf("cz"))[1].Kids(innerOf("z~"))[1] // behind the last key there is no bound
	kept(t, f, last, leafOf("~\x7f\x80\xff"), true)
	kept(t, f, last, leafOf("\x7f\x80\xfe\xff"), false)
}

func TestKeptOfWhatIsNotRead(t *testing.T) {
	d := disk.New(1 << 16)
	f, _ := file.Create(d, "f")
	r := api.Ref{Off: written(t, f, place.NodeKind, node.Put(leafOf("ab"))), Count: 2}
	for _, bad := range []api.Ref{{Off: r.Off, Count: 3}, {Off: r.Off + 1, Count: 2}, {}} {
		if got, e := place.Root().Kept(f, bad); !node.Same(got, api.Node{}) || e != api.ErrForm {
			t.Errorf("%v: %v, %d", bad, got, e)
		}
	}
	for _, p := range append(place.Root().Kids(innerOf("bc")), place.Root()) { // too small for a kid, and elsewhere
		d.Fail(1)
		if got, e := p.Kept(f, r); !node.Same(got, api.Node{}) || e != api.ErrIO {
			t.Errorf("%v, %d", got, e)
		}
	}
}

func TestIsEmpty(t *testing.T) {
	for r, want := range map[api.Ref]bool{{}: true, {Off: 1}: false, {Count: 1}: false, {Off: 256, Count: 9}: false, {Off: -1}: false} {
		if place.IsEmpty(r) != want {
			t.Errorf("%v", r)
		}
	}
}

func TestIsAbove(t *testing.T) {
	kids := place.Root().Kids(innerOf("cm"))
	for key, above := range map[string]int{"": 2, "a": 2, "c": 2, "l\xff": 2, "m": 1, "m\x00": 1, "z": 1, "\xff": 1} {
		n := 0
		for _, kid := range kids {
			if kid.IsAbove([]byte(key)) {
				n++
			}
		}
		if n != above || !place.Root().IsAbove([]byte(key)) {
			t.Errorf("%q: %d, not %d", key, n, above)
		}
	}
}

func TestKidsOfNoInnerNode(t *testing.T) {
	if kids := place.Root().Kids(leafOf("abcd")); len(kids) != 0 {
		t.Errorf("%v", kids)
	}
}

func TestKeys(t *testing.T) {
	for _, keys := range []string{"a", "abcd", "abcdefgh"} {
		for _, n := range []api.Node{leafOf(keys), innerOf(keys)} {
			var got string
			for _, key := range place.Keys(n) {
				got += string(key)
			}
			if got != keys {
				t.Errorf("%q, not %q", got, keys)
			}
		}
	}
}
