package wal

import (
	"quire/api"
	"quire/wire"
)

// head answers what stands ahead of b in its file: its seal, and its length as wire's texts have it.
func (l *Log) head(generation, number int, b []byte) []byte {
	var w wire.Writer
	w.Fixed(l.seal(generation, number, b))
	w.Uint(uint64(len(b)))
	return w.Bytes()
}

// seal answers the sum of a record and of its place in the log: one that is whole but stands elsewhere is not to be told.
func (l *Log) seal(generation, number int, b []byte) uint64 {
	var w wire.Writer
	w.Text(l.name)
	w.Uint(uint64(generation))
	w.Uint(uint64(number))
	w.Uint(uint64(len(b)))
	w.Fixed(uint64(wire.Sum(b))) // of one width, so that another sum of b makes another seal for certain
	return uint64(wire.Sum(w.Bytes()))
}

// read takes the records of the next segment, whose bytes are b, till they end or one of them is torn: it answers those, and whether none is.
func (l *Log) read(b []byte) (records [][]byte, whole bool) {
	l.segments++
	l.size = 0
	r := wire.NewReader(b)
	e := wire.Try(func() {
		for r.Left() > 0 {
			records = append(records, l.next(r))
			l.records++
			l.size = len(b) - r.Left()
		}
	})
	return records, e == api.OK
}

// next reads the log's next record, or fails: it is torn, or nothing that was appended there.
func (l *Log) next(r *wire.Reader) []byte {
	seal, b := r.Fixed(), []byte(r.Text(api.MaxBytes))
	need(r.Err())
	if seal != l.seal(l.generation, l.records, b) {
		wire.Fail(api.ErrWireForm)
	}
	return b
}
