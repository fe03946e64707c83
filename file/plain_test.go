package file_test

import (
	"fmt"
	"maps"
	"math/rand/v2"
	"testing"

	"pandect/api"
	"pandect/disk"
	"pandect/file"
)

// plain is the file of the document told another way: what stands where, and
// not a byte of it.
type plain struct {
	name    string
	end     int64
	records map[int64]said
	places  [2]*said
}

type said struct {
	number uint64 // a kind, a generation
	body   string
}

func (p *plain) append(kind byte, body []byte, room int64) (int64, api.Errno) {
	at, n := p.end, 9+int64(len(body))
	if len(body) > 4096 || at+n > room {
		return 0, api.ErrFull
	}
	p.records[at] = said{uint64(kind), string(body)}
	p.end += n
	return at, api.OK
}

func (p *plain) hold(gen uint64, body []byte) api.Errno {
	if len(body) > 113 {
		return api.ErrFull
	}
	p.places[gen%2] = &said{gen, string(body)}
	return api.OK
}

func (p *plain) held() (said, api.Errno) {
	a, b := p.places[0], p.places[1]
	switch {
	case a == nil && b == nil:
		return said{}, api.ErrForm
	case b == nil || a != nil && a.number > b.number:
		return *a, api.OK
	}
	return *b, api.OK
}

func (p *plain) copy() *plain {
	c := *p
	c.records = maps.Clone(p.records)
	return &c
}

// A pair is a file and the plain one that has to say the same.
type pair struct {
	d      *disk.Disk
	room   int64
	f      *file.File
	p      *plain
	synced *plain // as it was at the last Sync
	l      *rand.Rand
}

func newPair(t *testing.T, seed int) *pair {
	l := lot(seed)
	room := int64(slots + l.IntN(60000))
	d, f := fresh(t, room)
	p := &plain{name: "f", end: slots, records: map[int64]said{}}
	fine(t, f.Sync())
	fine(t, d.SyncDir())
	return &pair{d, room, f, p, p.copy(), l}
}

// draw makes a body, now and then one that is too long for a slot or a record.
func (x *pair) draw() []byte {
	longest := []int{3, 60, 120, 600, 4200}[x.l.IntN(5)]
	return drawn(x.l.IntN(longest))
}

// same does one of the calls on both, and tells how the two differ.
func (x *pair) same(fails bool) string {
	if fails {
		x.d.Fail(1)
	}
	switch x.l.IntN(4) {
	case 0, 1:
		kind, body := byte(x.l.IntN(256)), x.draw()
		at, e := x.f.Append(kind, body)
		var want int64
		wantE := api.ErrIO
		if !fails || len(body) > 4096 {
			want, wantE = x.p.append(kind, body, x.room)
		}
		return differ("Append", fmt.Sprint(at, e), fmt.Sprint(want, wantE))
	case 2:
		gen, body := uint64(x.l.IntN(20)), x.draw()
		e, want := x.f.Hold(gen, body), api.ErrIO
		if !fails || len(body) > 113 {
			want = x.p.hold(gen, body)
		}
		return differ("Hold", fmt.Sprint(e), fmt.Sprint(want))
	}
	name := []string{"f", "g", longest}[x.l.IntN(3)]
	e, want := x.f.Renamed(name), api.ErrIO
	if !fails {
		x.p.name, want = name, api.OK
	}
	return differ("Renamed", fmt.Sprint(e), fmt.Sprint(want))
}

func differ(what, got, want string) string {
	if got == want {
		return ""
	}
	return what + ": " + got + ", not " + want
}

// whole tells how what f says differs from what p says.
func (x *pair) whole(f *file.File, p *plain) string {
	gen, state, e := f.Held()
	s, want := p.held()
	out := differ("Held", fmt.Sprint(gen, string(state), e), fmt.Sprint(s.number, s.body, want))
	out += differ("End, Name", fmt.Sprint(f.End(), f.Name()), fmt.Sprint(p.end, p.name))
	for range 5 {
		off := int64(x.l.IntN(int(p.end)+5) - 2)
		if _, is := p.records[off]; !is {
			kind, body, e := f.Read(off)
			out += differ("Read", fmt.Sprint(kind, body, e), fmt.Sprint(0, []byte{}, api.ErrForm))
		}
	}
	return out + x.records(f, p)
}

func (x *pair) records(f *file.File, p *plain) string {
	for off, r := range p.records {
		kind, body, e := f.Read(off)
		if out := differ(fmt.Sprint("Read at ", off), fmt.Sprint(kind, string(body), e), fmt.Sprint(r.number, r.body, api.OK)); out != "" {
			return out
		}
	}
	return ""
}

func TestP5AsThePlainOne(t *testing.T) {
	for seed := range 150 {
		x := newPair(t, seed)
		for i := range 60 {
			out := x.same(x.l.IntN(8) == 0)
			x.d.Fail(0)
			if x.l.IntN(8) == 0 {
				fine(t, x.f.Sync())
				fine(t, x.d.SyncDir())
				x.synced = x.p.copy()
			}
			if x.l.IntN(10) == 0 {
				x.f = opens(t, x.d, x.p.name)
			}
			if out += x.whole(x.f, x.p); out != "" {
				t.Fatalf("seed %d, step %d: %.300s", seed, i, out)
			}
		}
		x.crash(t, seed)
	}
}

// crash: what was synced is read, and what was not is what it was, or not there.
func (x *pair) crash(t *testing.T, seed int) {
	x.d.Crash(append([]byte{byte(x.l.IntN(256))}, drawn(seed)...))
	f := opens(t, x.d, x.d.List()[0])
	if out := x.records(f, x.synced); out != "" || f.End() < x.synced.end {
		t.Fatalf("seed %d: %.300s; it ends at %d", seed, out, f.End())
	}
	for off, r := range x.p.records {
		kind, body, e := f.Read(off)
		if e != api.ErrForm && (e != api.OK || uint64(kind) != r.number || string(body) != r.body) {
			t.Fatalf("seed %d, at %d: %d, %.20q, %d", seed, off, kind, body, e)
		}
	}
}
