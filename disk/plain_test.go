package disk_test

import (
	"maps"
	"math/rand/v2"
	"slices"
	"strings"
	"testing"

	"pandect/api"
	"pandect/disk"
)

// plain is the disk of the document told another way: all names that were,
// one list behind the other, and each file as what lasts and its edits.
type plain struct {
	room      int64
	dirs      []map[string]*plainFile // the first lasts, the last is seen
	ops, fail int                     // fail: the operation that fails
}

type plainFile struct {
	kept  string
	edits []edit
}

type edit struct {
	cut  bool
	at   int
	text string
}

func newPlain(room int64) *plain {
	return &plain{room: room, dirs: []map[string]*plainFile{{}}, fail: -1}
}

func (e edit) on(s string) string {
	end := e.at + len(e.text)
	long := s + strings.Repeat("\x00", max(0, end-len(s)))
	if e.cut {
		return long[:e.at]
	}
	return long[:e.at] + e.text + long[end:]
}

func (f *plainFile) seen() string {
	s := f.kept
	for _, e := range f.edits {
		s = e.on(s)
	}
	return s
}

func (p *plain) now() map[string]*plainFile { return p.dirs[len(p.dirs)-1] }

func (p *plain) begin(may bool) api.Errno {
	p.ops++
	switch {
	case p.ops == p.fail:
		return api.ErrIO
	case !may:
		return api.ErrArg
	}
	return api.OK
}

func (p *plain) find(name string, may bool) (*plainFile, api.Errno) {
	if e := p.begin(may && name != "" && len(name) <= 16); e != api.OK {
		return nil, e
	}
	f := p.now()[name]
	if f == nil {
		return nil, api.ErrNone
	}
	return f, api.OK
}

func (p *plain) step(change func(m map[string]*plainFile)) {
	m := maps.Clone(p.now())
	change(m)
	p.dirs = append(p.dirs, m)
}

func (p *plain) create(name string) api.Errno {
	_, e := p.find(name, true)
	if e == api.OK {
		return api.ErrMany
	}
	if e == api.ErrNone {
		p.step(func(m map[string]*plainFile) { m[name] = &plainFile{} })
		return api.OK
	}
	return e
}

func (p *plain) edit(name string, e edit, may bool) api.Errno {
	f, no := p.find(name, may && e.at >= 0 && e.at <= most)
	if no != api.OK || !e.cut && e.text == "" {
		return no
	}
	had := f.seen()
	all := int64(0)
	for _, g := range p.now() {
		all += int64(len(g.seen()))
	}
	size := max(e.at+len(e.text), len(had))
	if e.cut {
		size = e.at
	}
	if size > len(had) && all+int64(size-len(had)) > p.room {
		return api.ErrFull
	}
	f.edits = append(f.edits, e)
	return api.OK
}

func (p *plain) read(name string, off, n int) (string, api.Errno) {
	f, e := p.find(name, off >= 0 && off <= most && n >= 0 && n <= most)
	if e != api.OK {
		return "", e
	}
	s := f.seen()
	if off+n > len(s) {
		return "", api.ErrForm
	}
	return s[off : off+n], api.OK
}

func (p *plain) sync(name string) api.Errno {
	f, e := p.find(name, true)
	if e == api.OK {
		f.kept, f.edits = f.seen(), nil
	}
	return e
}

func (p *plain) rename(from, to string) api.Errno {
	f, e := p.find(from, to != "" && len(to) <= 16)
	if e == api.OK {
		p.step(func(m map[string]*plainFile) {
			delete(m, from)
			m[to] = f
		})
	}
	return e
}

func (p *plain) remove(name string) api.Errno {
	_, e := p.find(name, true)
	if e == api.OK {
		p.step(func(m map[string]*plainFile) { delete(m, name) })
	}
	return e
}

func (p *plain) syncDir() api.Errno {
	e := p.begin(true)
	if e == api.OK {
		p.dirs = p.dirs[len(p.dirs)-1:]
	}
	return e
}

// pieces: what may be lost apart.
func (e edit) pieces() []edit {
	if e.cut {
		return []edit{e}
	}
	var out []edit
	for i := range len(e.text) {
		if at := e.at + i; i == 0 || at%api.Sector == 0 {
			out = append(out, edit{at: at})
		}
		out[len(out)-1].text += e.text[i : i+1]
	}
	return out
}

func (p *plain) crash(bits []byte) {
	c := 0
	if len(bits) > 0 {
		c = int(bits[0]) % len(p.dirs)
		bits = bits[1:]
	}
	p.dirs = p.dirs[c : c+1]
	p.fail = -1
	i := 0
	for _, name := range slices.Sorted(maps.Keys(p.now())) {
		f := p.now()[name]
		for _, e := range f.edits {
			for _, piece := range e.pieces() {
				if i/8 < len(bits) && bits[i/8]&(1<<(i%8)) != 0 {
					f.kept = piece.on(f.kept)
				}
				i++
			}
		}
		f.edits = nil
	}
}

func (p *plain) whole() string {
	var out strings.Builder
	for _, name := range slices.Sorted(maps.Keys(p.now())) {
		out.WriteString(name + "=" + p.now()[name].seen() + ";")
	}
	return out.String()
}

// A lot draws steps: the same ones for the same seed.
type lot struct{ *rand.Rand }

func newLot(seed int) lot { return lot{rand.New(rand.NewPCG(uint64(seed), 7))} }

func (l lot) name() string {
	names := []string{"a", "b", "c", "d", longest, "\xff", "a", "b", "", tooLong}
	return names[l.IntN(len(names))]
}

func (l lot) number() int {
	switch l.IntN(12) {
	case 0:
		return -1 - l.IntN(3)
	case 1:
		return most + l.IntN(3)
	case 2:
		return 128 * l.IntN(5)
	}
	return l.IntN(300)
}

func (l lot) bytes() []byte {
	b := make([]byte, l.IntN(l.IntN(400)+1))
	for i := range b {
		b[i] = byte('a' + l.IntN(26))
	}
	return b
}

func (l lot) bits() []byte {
	b := make([]byte, l.IntN(8))
	for i := range b {
		b[i] = byte(l.IntN(256))
	}
	return b
}

// both does one step to both disks and tells what they said to it.
func (l lot) both(d *disk.Disk, p *plain) (what, got, want string) {
	say := func(b string, e api.Errno) string { return string(rune('0'+e)) + ":" + b }
	name, to, n, m, b := l.name(), l.name(), l.number(), l.number(), l.bytes()
	switch l.IntN(16) {
	case 0, 1:
		return "Create", say("", d.Create(name)), say("", p.create(name))
	case 2, 3, 4, 5:
		return "Write", say("", d.Write(name, int64(n), b)), say("", p.edit(name, edit{at: n, text: string(b)}, true))
	case 6:
		r, e := d.Read(name, int64(n), m)
		s, f := p.read(name, n, m)
		return "Read", say(string(r), e), say(s, f)
	case 7, 8:
		return "Truncate", say("", d.Truncate(name, int64(n))), say("", p.edit(name, edit{cut: true, at: n}, true))
	case 9, 10:
		return "Sync", say("", d.Sync(name)), say("", p.sync(name))
	case 11:
		return "Rename", say("", d.Rename(name, to)), say("", p.rename(name, to))
	case 12:
		return "Remove", say("", d.Remove(name)), say("", p.remove(name))
	case 13:
		return "SyncDir", say("", d.SyncDir()), say("", p.syncDir())
	case 14:
		k := l.IntN(6) - 1
		d.Fail(k)
		if p.fail = p.ops + k; k < 1 {
			p.fail = -1
		}
		return "Fail", "", ""
	}
	if l.IntN(4) == 0 {
		bits := l.bits()
		d.Crash(bits)
		p.crash(bits)
	}
	return "Crash", "", ""
}

func TestP1AsThePlainDisk(t *testing.T) {
	for seed := range 400 {
		l := newLot(seed)
		room := int64(l.IntN(1500))
		d, p := disk.New(room), newPlain(room)
		for i := range 150 {
			if l.IntN(20) == 0 {
				old := d
				d = d.Copy()
				old.Crash(l.bits())
				old.Write("a", 0, []byte("of no interest"))
			}
			what, got, want := l.both(d, p)
			if got != want || whole(d) != p.whole() || d.Ops() != p.ops {
				t.Fatalf("seed %d, step %d, %s: %q, not %q; %q, not %q; %d, not %d", seed, i, what, got, want, whole(d), p.whole(), d.Ops(), p.ops)
			}
		}
	}
}

// What follows: what is synced is there behind any crash.
func TestP1WhatIsSyncedIsThere(t *testing.T) {
	for seed := range 200 {
		l := newLot(seed)
		d, p := disk.New(2000), newPlain(2000)
		for range 60 {
			l.both(d, p)
		}
		d.Fail(0)
		d.Create("kept")
		b := l.bytes()
		fine(t, d.Truncate("kept", 0))
		if d.Write("kept", 3, b) == api.ErrFull {
			continue
		}
		want := text(d, "kept")
		fine(t, d.Sync("kept"))
		fine(t, d.SyncDir())
		for range 20 {
			l.both(d, p)
		}
		for k := range 30 {
			c := d.Copy()
			c.Crash(l.bits())
			if got := text(c, "kept"); got != want {
				t.Fatalf("seed %d, %d: %q, not %q", seed, k, got, want)
			}
		}
	}
}
