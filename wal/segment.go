package wal

import (
	"slices"
	"strconv"
	"strings"

	"skylark/api"
	"skylark/disk"
)

// namePrefix stands ahead of a segment's number in its file's name.
const namePrefix = "log."

// segment is a file of the log: the number of its first record, and how many bytes its records have.
type segment struct {
	first, bytes int
}

// load reads all segments, and tells whether the last one ends in a part of a frame, as a crash leaves it.
func (w *Wal) load() (bool, api.Errno) {
	torn := false
	firsts := firstsOn(w.disk)
reading:
	for i, first := range firsts {
		// Each goes on where the one ahead ends: one without a record, followed by another one, has lost some.
		if i > 0 && first != w.next {
			return false, api.ErrCorrupt
		}
		file, e := w.disk.Read(nameOf(first))
		if e != api.OK {
			return false, e
		}
		w.segments = append(w.segments, segment{first: first})
		w.next = first
		for at := 0; at < len(file); {
			_, end, e := recordAt(file, at, w.next)
			if e == api.ErrEnd && i == len(firsts)-1 {
				torn = true
				break reading
			}
			if e != api.OK {
				return false, api.ErrCorrupt
			}
			at = end
			w.segments[i].bytes = end
			w.next++
		}
	}
	return torn, api.OK
}

// tidy takes away what a crash left of a last segment. One without a record stays if it is the only one, lest numbers that were forgotten come again.
func (w *Wal) tidy(torn bool) api.Errno {
	last := len(w.segments) - 1
	if last < 0 {
		return api.OK
	}
	s := w.segments[last]
	if torn {
		if e := w.disk.Cut(nameOf(s.first), s.bytes); e != api.OK {
			return e
		}
	}
	if s.bytes > 0 || last == 0 {
		return api.OK
	}
	if e := w.disk.Remove(nameOf(s.first)); e != api.OK {
		return e
	}
	w.segments = w.segments[:last]
	return api.OK
}

// ready answers the segments, the last of which is the one that the next record comes into. All is synced ahead of a new one, so that a crash tears none but the last.
func (w *Wal) ready() ([]segment, api.Errno) {
	many := len(w.segments)
	if many > 0 && w.segments[many-1].bytes < w.most {
		return w.segments, api.OK
	}
	if many > 0 {
		if e := w.disk.Sync(); e != api.OK {
			return nil, e
		}
	}
	return append(w.segments, segment{first: w.next}), api.OK
}

// collect answers the records from a number on, at most so many. A file that somebody else has changed since may lack them.
func (w *Wal) collect(from, most int) ([]api.Record, api.Errno) {
	if most == 0 {
		return nil, api.OK
	}
	var list []api.Record
reading:
	for i, s := range w.segments {
		if i+1 < len(w.segments) && w.segments[i+1].first <= from {
			continue
		}
		file, e := w.disk.Read(nameOf(s.first))
		if e != api.OK {
			return nil, api.ErrCorrupt
		}
		for at, seq := 0, s.first; at < s.bytes; seq++ {
			r, end, e := recordAt(file, at, seq)
			if e != api.OK {
				return nil, api.ErrCorrupt
			}
			if seq >= from {
				list = append(list, r)
			}
			if len(list) == most {
				break reading
			}
			at = end
		}
	}
	return list, api.OK
}

// firstsOn answers the numbers of the segments that are on a disk, rising. The disk has their names by bytes, 10 ahead of 9.
func firstsOn(d *disk.Disk) []int {
	var firsts []int
	for _, name := range d.Names() {
		if first, ok := firstOf(name); ok {
			firsts = append(firsts, first)
		}
	}
	slices.Sort(firsts)
	return firsts
}

// firstOf answers the number in a segment's name; a file of another name is none.
func firstOf(name string) (int, bool) {
	digits, ok := strings.CutPrefix(name, namePrefix)
	if !ok {
		return 0, false
	}
	first, err := strconv.Atoi(digits)
	if err != nil || !isWithin(first, 1, api.MaxIndex) || nameOf(first) != name {
		return 0, false
	}
	return first, true
}

func nameOf(first int) string {
	return namePrefix + strconv.Itoa(first)
}
