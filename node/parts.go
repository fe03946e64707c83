package node

import (
	"bytes"

	"pandect/api"
)

const (
	leafLetter  = 'L'
	innerLetter = 'N'

	numberBytes = 8
	sizeBytes   = 1
	around      = 1 + sizeBytes // what a node has beside what is in it: its letter, and how many

	fewestItems = 1
	fewestKids  = 2 // one with a single kid would say no more than that one
	mostUnder   = 1 << 40
)

func mayBeLeaf(n api.Node) bool {
	return len(n.Keys) == 0 && len(n.Kids) == 0 && mayBeSoMany(len(n.Items), fewestItems) && mayBeItems(n.Items)
}

func mayBeInner(n api.Node) bool {
	return len(n.Items) == 0 && len(n.Keys) == len(n.Kids) && mayBeSoMany(len(n.Kids), fewestKids) && mayBeKeys(n.Keys) && mayBeKids(n.Kids)
}

func mayBeSoMany(n, fewest int) bool { return n >= fewest && n <= api.Fan }

func mayBeItems(items []api.Item) bool {
	var last []byte
	for _, item := range items {
		if !mayFollow(last, item.Key) || len(item.Val) > api.MaxVal {
			return false
		}
		last = item.Key
	}
	return true
}

func mayBeKeys(keys [][]byte) bool {
	var last []byte
	for _, key := range keys {
		if !mayFollow(last, key) {
			return false
		}
		last = key
	}
	return true
}

// mayFollow asks for a byte at least, too: an empty key is above none, and each
// other one is above nothing, which stands ahead of the first.
func mayFollow(last, key []byte) bool {
	return len(key) <= api.MaxKey && bytes.Compare(last, key) < 0
}

func mayBeKids(kids []api.Ref) bool {
	for _, kid := range kids {
		if kid.Off < 1 || kid.Count < 1 || kid.Count > mostUnder {
			return false
		}
	}
	return true
}

func sameItem(a, b api.Item) bool {
	return bytes.Equal(a.Key, b.Key) && bytes.Equal(a.Val, b.Val)
}

func putLeaf(items []api.Item) []byte {
	size := around
	for _, item := range items {
		size += 2*sizeBytes + len(item.Key) + len(item.Val)
	}
	b := append(make([]byte, 0, size), leafLetter, byte(len(items)))
	for _, item := range items {
		b = putText(b, item.Key)
		b = putText(b, item.Val)
	}
	return b
}

func putInner(keys [][]byte, kids []api.Ref) []byte {
	size := around
	for _, key := range keys {
		size += sizeBytes + len(key) + 2*numberBytes
	}
	b := append(make([]byte, 0, size), innerLetter, byte(len(kids)))
	for i, kid := range kids {
		b = putText(b, keys[i])
		b = putNumber(b, uint64(kid.Off))
		b = putNumber(b, kid.Count)
	}
	return b
}

// putText lays how many bytes the text has ahead of it. What may be in a node is
// shorter than one byte tells.
func putText(b, text []byte) []byte {
	return append(append(b, byte(len(text))), text...)
}

func putNumber(b []byte, n uint64) []byte {
	for i := range numberBytes {
		b = append(b, byte(n>>(8*(numberBytes-1-i))))
	}
	return b
}
