package event

import "pandect/api"

const (
	numberBytes = 8
	sizeBytes   = 1
	around      = 2*numberBytes + 3*sizeBytes // what an event has beside its names and its data
)

func mayName(s string) bool {
	if len(s) < 1 || len(s) > api.MaxName {
		return false
	}
	for i := range len(s) {
		if s[i] < 33 || s[i] > 126 {
			return false
		}
	}
	return true
}

func putNumber(b []byte, n int64) []byte {
	for i := range numberBytes {
		b = append(b, byte(n>>(8*(numberBytes-1-i))))
	}
	return b
}

// putText lays how many bytes the text has ahead of it. What may be in an event
// is shorter than one byte tells.
func putText[T string | []byte](b []byte, text T) []byte {
	return append(append(b, byte(len(text))), text...)
}
