package slot

import (
	"pandect/api"
	"pandect/sum"
)

// letters stand at a slot's front.
const letters = "PD"

// Where a slot's parts begin.
const (
	genAt    = len(letters)
	sizeAt   = genAt + 8
	bodyAt   = sizeAt + 1
	sumAt    = api.Sector - 4
	mostBody = sumAt - bodyAt
)

// A sector is the bytes of a slot, or those that stand where one should be.
type sector []byte

func (s sector) letters() []byte { return s[:genAt] }
func (s sector) gen() []byte     { return s[genAt:sizeAt] }
func (s sector) size() []byte    { return s[sizeAt:bodyAt] }
func (s sector) body() []byte    { return s[bodyAt:s.bodyEnd()] }
func (s sector) noughts() []byte { return s[s.bodyEnd():sumAt] }
func (s sector) sum() []byte     { return s[sumAt:] }

func (s sector) bodyEnd() int     { return bodyAt + int(number(s.size())) }
func (s sector) sumAhead() uint64 { return uint64(sum.Sum(s[:sumAt])) }

func (s sector) isWhole() bool    { return len(s) == api.Sector }
func (s sector) hasLetters() bool { return string(s.letters()) == letters }
func (s sector) hasSize() bool    { return s.bodyEnd() <= sumAt }
func (s sector) hasSum() bool     { return number(s.sum()) == s.sumAhead() }

// hasNoughts: a sum that is right does not make other bytes behind the body
// into a slot.
func (s sector) hasNoughts() bool {
	for _, c := range s.noughts() {
		if c != 0 {
			return false
		}
	}
	return true
}

// putNumber fills b with n, the highest byte first.
func putNumber(b []byte, n uint64) {
	for i := range b {
		b[len(b)-1-i] = byte(n >> (8 * i))
	}
}

func number(b []byte) uint64 {
	n := uint64(0)
	for _, c := range b {
		n = n<<8 | uint64(c)
	}
	return n
}
