package ballot

import (
	"math"

	"skylark/api"
	"skylark/rlog"
)

// logOf answers a new log of entries that stood in one, from its beginning on.
func logOf(entries []api.Entry) *rlog.Log {
	l := rlog.New()
	l.Merge(0, 0, entries)
	return l
}

// entriesFrom answers a log's entries from a number on; none, if it does not go there.
func entriesFrom(l *rlog.Log, first int) []api.Entry {
	list, _ := l.Slice(first, math.MaxInt)
	return list
}

// entriesUpTo answers a log's entries up to a number that it has, or 0.
func entriesUpTo(l *rlog.Log, last int) []api.Entry {
	list, _ := l.Slice(1, last)
	return list
}
