package key

import (
	"bytes"

	"pandect/api"
)

const (
	// nought ends a name: it is below each byte of one, so that a name comes
	// ahead of the longer ones that begin with it.
	nought      = 0
	numberBytes = 8
)

// parts are what keys are made of: each kind of key has some of them.
type parts struct {
	letter byte
	name   string
	number int64
}

// key lays parts one behind the other, as a row of method expressions says. It
// is nothing, if one of them may not be.
func (p parts) key(row ...func(parts, []byte) ([]byte, bool)) []byte {
	var b []byte
	for _, put := range row {
		more, may := put(p, b)
		if !may {
			return nil
		}
		b = more
	}
	return b
}

func (p parts) putLetter(b []byte) ([]byte, bool) { return append(b, p.letter), true }

func (p parts) putName(b []byte) ([]byte, bool) {
	if !MayName(p.name) {
		return nil, false
	}
	return append(b, p.name...), true
}

func (p parts) putNought(b []byte) ([]byte, bool) { return append(b, nought), true }

func (p parts) putNumber(b []byte) ([]byte, bool) {
	if p.number < 0 {
		return nil, false
	}
	for i := range numberBytes {
		b = append(b, byte(p.number>>(8*(numberBytes-1-i))))
	}
	return b, true
}

func lettered(letter byte, name string) []byte {
	return parts{letter: letter, name: name}.key(parts.putLetter, parts.putName)
}

func numbered(name string, number int64) []byte {
	return parts{name: name, number: number}.key(parts.putName, parts.putNought, parts.putNumber)
}

// takeNumbered takes what may have been a name and a number: k is their key, if
// just that comes out when it is made of them.
func takeNumbered(k []byte) (name string, number int64, ok bool) {
	nameEnd := len(k) - numberBytes - 1
	if nameEnd < 1 || nameEnd > api.MaxName {
		return "", 0, false
	}
	name, number = string(k[:nameEnd]), numberOf(k[nameEnd+1:])
	if !bytes.Equal(numbered(name, number), k) {
		return "", 0, false
	}
	return name, number, true
}

func numberOf(b []byte) int64 {
	n := uint64(0)
	for _, c := range b {
		n = n<<8 | uint64(c)
	}
	return int64(n)
}
