package rlog

import (
	"iter"
	"slices"
	"strings"

	"skylark/api"
)

// maxData is how many bytes an entry's Data may have.
const maxData = 4096

// knows tells whether the term at a number is known.
func (l *Log) knows(i int) bool {
	return l.base <= i && i <= l.base+len(l.entries)
}

// termAt answers the term at a number where it is known.
func (l *Log) termAt(i int) int {
	if i == l.base {
		return l.baseTerm
	}
	return l.entries[i-l.base-1].Term
}

// put makes an entry the last one. Its text is copied, for what is handed in is not kept.
func (l *Log) put(e api.Entry) {
	e.Data = strings.Clone(e.Data)
	l.entries = append(l.entries, e)
}

// cutFrom takes the entries from a number on away, and answers how many. Their texts must not stay in the list's room.
func (l *Log) cutFrom(n int) int {
	kept := n - l.base - 1
	gone := len(l.entries) - kept
	clear(l.entries[kept:])
	l.entries = l.entries[:kept]
	return gone
}

// letGo takes so many entries away from the front. The rest is moved only if it is no more than they are, so that a log that is let go one by one isn't moved each time.
func (l *Log) letGo(many int) {
	rest := l.entries[many:]
	clear(l.entries[:many])
	if len(rest) <= many {
		rest = append([]api.Entry(nil), rest...)
	}
	l.entries = rest
}

// upward ranges over so many entries of the log, from a number on.
func (l *Log) upward(from, many int) iter.Seq2[int, api.Entry] {
	first := from - l.base - 1
	return numbered(from, l.entries[first:first+many])
}

// downward ranges over the entries from top down, above floor.
func (l *Log) downward(top, floor int) iter.Seq2[int, api.Entry] {
	return func(yield func(int, api.Entry) bool) {
		for n := top; n > floor; n-- {
			if !yield(n, l.entries[n-l.base-1]) {
				return
			}
		}
	}
}

// lacking ranges over the entries from the first on that the log has not with the same term. Behind that one it does not look at the log, which may change meanwhile.
func (l *Log) lacking(entries iter.Seq2[int, api.Entry]) iter.Seq2[int, api.Entry] {
	return func(yield func(int, api.Entry) bool) {
		lacks := false
		for n, e := range entries {
			lacks = lacks || !l.knows(n) || l.termAt(n) != e.Term
			if lacks && !yield(n, e) {
				return
			}
		}
	}
}

// numbered ranges over entries with their numbers, the first of which is given.
func numbered(first int, entries []api.Entry) iter.Seq2[int, api.Entry] {
	return func(yield func(int, api.Entry) bool) {
		for i, e := range entries {
			if !yield(first+i, e) {
				return
			}
		}
	}
}

// mayFollow tells why entries may not stand behind one of a term. An error that the chapter names first goes ahead, wherever it stands among them.
func mayFollow(term int, entries iter.Seq2[int, api.Entry]) api.Errno {
	stale, long := false, false
	for n, e := range entries {
		if e.Term < 1 || e.Term > api.MaxTerm {
			return api.ErrRange
		}
		stale = stale || e.Term < term
		long = long || len(e.Data) > maxData || n > api.MaxIndex
		term = e.Term
	}
	if stale {
		return api.ErrStale
	}
	if long {
		return api.ErrLong
	}
	return api.OK
}

// firstOf answers the number of the first of entries, which go down, that is of a term. Terms don't rise on the way down, so below a lesser one there is none.
func firstOf(term int, entries iter.Seq2[int, api.Entry]) (int, bool) {
	for n, e := range entries {
		if e.Term == term {
			return n, true
		}
		if e.Term < term {
			break
		}
	}
	return 0, false
}

// copied answers entries as a list of its own, with texts of its own.
func copied(entries iter.Seq2[int, api.Entry]) []api.Entry {
	var list []api.Entry
	for _, e := range entries {
		list = append(list, api.Entry{Term: e.Term, Data: strings.Clone(e.Data)})
	}
	return list
}

// hadByMost answers the greatest number that more than half of match are not below: the one in their middle, of two there the lesser.
func hadByMost(match []int) int {
	rising := slices.Sorted(slices.Values(match))
	return rising[(len(rising)-1)/2]
}
