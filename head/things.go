package head

import "pandect/api"

// mostCount is what a count's two bytes can tell.
const mostCount = 1<<(8*countBytes) - 1

type head api.Head

func (h head) mayBe() bool { return 0 <= h.First && h.First <= h.Next }

func (h head) putNext(b []byte) []byte  { return putNumber(b, h.Next, longBytes) }
func (h head) putFirst(b []byte) []byte { return putNumber(b, h.First, longBytes) }

func (h head) putTomb(b []byte) []byte {
	flag := int64(0)
	if h.Tomb {
		flag = 1
	}
	return putNumber(b, flag, flagBytes)
}

func (h *head) takeNext(b []byte) (rest []byte, is bool) {
	h.Next, rest, is = takeNumber(b, longBytes)
	return rest, is
}

func (h *head) takeFirst(b []byte) (rest []byte, is bool) {
	h.First, rest, is = takeNumber(b, longBytes)
	return rest, is
}

func (h *head) takeTomb(b []byte) ([]byte, bool) {
	flag, rest, is := takeNumber(b, flagBytes)
	h.Tomb = flag == 1
	return rest, is && flag <= 1
}

type done api.Done

func (d done) mayBe() bool {
	return d.First >= 0 && d.Count >= 1 && d.Count <= mostCount && !d.Again
}

func (d done) putFirst(b []byte) []byte { return putNumber(b, d.First, longBytes) }
func (d done) putCount(b []byte) []byte { return putNumber(b, int64(d.Count), countBytes) }

func (d *done) takeFirst(b []byte) (rest []byte, is bool) {
	d.First, rest, is = takeNumber(b, longBytes)
	return rest, is
}

func (d *done) takeCount(b []byte) ([]byte, bool) {
	count, rest, is := takeNumber(b, countBytes)
	d.Count = int(count)
	return rest, is
}

type mark api.Mark

func (m mark) mayBe() bool { return m.At >= 0 && len(m.Data) <= api.MaxData }

func (m mark) putAt(b []byte) []byte   { return putNumber(b, m.At, longBytes) }
func (m mark) putData(b []byte) []byte { return append(b, m.Data...) }

func (m *mark) takeAt(b []byte) (rest []byte, is bool) {
	m.At, rest, is = takeNumber(b, longBytes)
	return rest, is
}

// takeData takes all that is left, but copies no more than may be. No data stay
// nil, as they stand in a mark without any.
func (m *mark) takeData(b []byte) ([]byte, bool) {
	if len(b) > api.MaxData {
		return nil, false
	}
	m.Data = append([]byte(nil), b...)
	return nil, true
}

// A place is where something begins in a file.
type place int64

func (p place) mayBe() bool { return p >= 0 }

func (p place) putOff(b []byte) []byte { return putNumber(b, int64(p), longBytes) }

func (p *place) takeOff(b []byte) ([]byte, bool) {
	off, rest, is := takeNumber(b, longBytes)
	*p = place(off)
	return rest, is
}
