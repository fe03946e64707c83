package disk

import "maps"

// names tells which name leads to which file, by the file's number.
type names map[string]int

// A nameOp does again what was done to names. It knows names and numbers
// only, so that disks that are copies of one another can share it.
type nameOp func(m names)

type create struct {
	name   string
	number int
}

func (c create) redo(m names) { m[c.name] = c.number }

type rename struct{ from, to string }

func (r rename) redo(m names) {
	number := m[r.from]
	delete(m, r.from)
	m[r.to] = number
}

type remove struct{ name string }

func (r remove) redo(m names) { delete(m, r.name) }

// makeTables is left to the first Create, so that the zero Disk can be asked.
func (d *Disk) makeTables() {
	if d.kept == nil {
		d.seen, d.kept, d.files = names{}, names{}, fileTable{}
	}
}

// alter does op to what is seen, and lays it by for what lasts.
func (d *Disk) alter(op nameOp) {
	op(d.seen)
	d.laid = append(d.laid, op)
}

// settle makes the first n operations that were laid by last; the others are
// lost, and with them all that only they would have led to.
func (d *Disk) settle(n int) {
	for _, op := range d.laid[:n] {
		op(d.kept)
	}
	d.laid = nil
	d.seen = maps.Clone(d.kept)
	named := make(fileTable, len(d.seen))
	for _, number := range d.seen {
		named[number] = d.files[number]
	}
	d.files = named
}

// empty gives back the room of a file that is about to lose its name: its
// bytes are not seen any more, only what a crash may need of it stays.
func (d *Disk) empty(name string) {
	number, is := d.seen[name]
	if !is {
		return
	}
	f := d.files[number]
	d.used -= int64(len(f.seen))
	f.seen = nil
}
