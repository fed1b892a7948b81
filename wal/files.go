package wal

import (
	"strconv"
	"strings"

	"quire/api"
)

// spot: where a record is to stand: behind the first size bytes of a file, a fresh one of which is yet to be made.
type spot struct {
	file  string
	size  int
	fresh bool
}

// file answers the name of a segment. No letter follows the log's name, for that of another log may begin with it.
func (l *Log) file(generation, index int) string {
	return l.name + "." + strconv.Itoa(generation) + "." + strconv.Itoa(index)
}

// draft answers the name of a file that a Restart writes ahead of its being a segment.
func (l *Log) draft() string {
	return l.name + ".new"
}

// parts answers which segment the file of that name is; not ok: it is none of this log.
func (l *Log) parts(file string) (generation, index int, ok bool) {
	first, second, _ := strings.Cut(strings.TrimPrefix(file, l.name+"."), ".")
	generation, _ = strconv.Atoi(first)
	index, _ = strconv.Atoi(second)
	return generation, index, file == l.file(generation, index)
}

// place answers where a record goes that takes n bytes: in the last segment, or in a new one, if that is closed, or if its file could never take so many more.
func (l *Log) place(n int) spot {
	if l.segments == 0 || l.size >= l.segment || l.size+n > api.MaxFile {
		l.syncLast()
		return spot{file: l.file(l.generation, l.segments), fresh: true}
	}
	return spot{file: l.file(l.generation, l.segments-1), size: l.size}
}

// lay writes a record. Its head goes by itself, so that b, which may be large, needs no copy; a disk may have room for the one and not for both.
func (l *Log) lay(at spot, head, b []byte) {
	done := false
	defer func() {
		if !done {
			l.takeBack(at)
		}
	}()
	need(l.disk.Append(at.file, head))
	need(l.disk.Append(at.file, b))
	done = true
}

// takeBack takes away what was written at a spot. A disk without power refuses it, but then Open finds a torn record there.
func (l *Log) takeBack(at spot) {
	if at.fresh {
		l.disk.Delete(at.file)
		return
	}
	l.disk.Truncate(at.file, at.size)
}

// syncLast syncs the last segment: with it all are.
func (l *Log) syncLast() {
	if l.segments > 0 {
		need(l.disk.Sync(l.file(l.generation, l.segments-1)))
	}
}

// syncAll syncs all segments: of those that Open found nothing is sure. The first one goes first, for none may be lost ahead of one that stays.
func (l *Log) syncAll() {
	for i := range l.segments {
		need(l.disk.Sync(l.file(l.generation, i)))
	}
}

// find answers the records of the newest generation, till a segment is missing or a record is torn: what is behind that would leave a gap.
func (l *Log) find() [][]byte {
	l.generation = l.newest()
	var found [][]byte
	for whole := true; whole; {
		b, e := l.disk.Read(l.file(l.generation, l.segments))
		if e != api.OK {
			break
		}
		var records [][]byte
		records, whole = l.read(b)
		found = append(found, records...)
	}
	return found
}

// newest answers the greatest generation of which there is a segment.
func (l *Log) newest() int {
	newest := 0
	for _, file := range l.disk.List() {
		if generation, _, ok := l.parts(file); ok {
			newest = max(newest, generation)
		}
	}
	return newest
}

// clean takes away what isn't of the records that were found: drafts, older generations, what is behind a torn record. That record goes last: as long as it is there nothing behind it counts.
func (l *Log) clean() {
	for _, file := range l.disk.List() {
		generation, index, ok := l.parts(file)
		kept := generation == l.generation && index < l.segments
		if file == l.draft() || ok && !kept {
			need(l.disk.Delete(file))
		}
	}
	if l.segments > 0 {
		need(l.disk.Truncate(l.file(l.generation, l.segments-1), l.size))
	}
}
