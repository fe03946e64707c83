package disk

import "bytes"

// Crash leaves what lasts, and of the rest what bits say.
func (d *Disk) Crash(bits []byte) {
	if d == nil {
		return
	}
	d.left = 0
	d.settle(firstOf(bits, len(d.laid)))
	d.used = 0
	lot := &lots{bits: bits}
	for _, name := range d.List() {
		f := d.files[d.seen[name]]
		f.settle(lot.draw)
		f.seen = bytes.Clone(f.kept)
		d.used += int64(len(f.seen))
	}
}

// firstOf tells how many of n operations on names survive.
func firstOf(bits []byte, n int) int {
	if len(bits) == 0 {
		return 0
	}
	return int(bits[0]) % (n + 1)
}

// lots tells of one piece after the other whether it survives: a bit each,
// behind the first byte, which speaks of names.
type lots struct {
	bits []byte
	at   int
}

func (l *lots) draw() bool {
	at := l.at
	l.at++
	i := 1 + at/8
	return i < len(l.bits) && l.bits[i]>>(at%8)&1 == 1
}
