package table

import (
	"slices"
	"strings"

	"skylark/api"
)

// find answers by halves where the row of a key is, and true; or where it would be put in.
func find(rows []api.Row, key string) (int, bool) {
	return slices.BinarySearchFunc(rows, key, func(r api.Row, key string) int {
		return strings.Compare(r.Key, key)
	})
}

// stretch answers where the rows of a span begin and end. A span may end below its beginning; then it has none.
func stretch(rows []api.Row, s api.Span) (int, int) {
	from, _ := find(rows, s.From)
	if s.To == "" {
		return from, len(rows)
	}
	to, _ := find(rows, s.To)
	return from, max(from, to)
}

// with answers rows with one in the place of those between two places. The rows ahead are cut to have no room behind them, so the new one is put into a new list, and the old one stays as it is for those that share it.
func with(rows []api.Row, from, to int, r api.Row) []api.Row {
	return append(append(rows[:from:from], r), rows[to:]...)
}

// without answers rows without those between two places. It is a new list, even if they are the last ones, so that nothing keeps what was taken away.
func without(rows []api.Row, from, to int) []api.Row {
	return slices.Concat(rows[:from], rows[to:])
}

// fresh answers how many rows of a list have keys that are not in the other.
func fresh(in, rows []api.Row) int {
	many := 0
	for _, r := range rows {
		if _, there := find(in, r.Key); !there {
			many++
		}
	}
	return many
}

// merged answers the rows of two lists of rising keys; of those that have one key, the later list's.
func merged(early, late []api.Row) []api.Row {
	var all []api.Row
	for _, r := range late {
		at, there := find(early, r.Key)
		all = append(append(all, early[:at]...), r)
		if there {
			at++
		}
		early = early[at:]
	}
	return append(all, early...)
}

// checkRows tells why rows cannot be taken: all of them are looked at one by one, ahead of whether they go together.
func checkRows(rows []api.Row) api.Errno {
	for _, r := range rows {
		if !isRow(r) {
			return api.ErrBad
		}
	}
	for i := 1; i < len(rows); i++ {
		if rows[i-1].Key >= rows[i].Key {
			return api.ErrShape
		}
	}
	return api.OK
}

func isRow(r api.Row) bool {
	return len(r.Key) >= 1 && len(r.Key) <= api.MaxKey && r.Stamp >= 1 && r.Stamp <= api.MaxStamp && len(r.Val) <= api.MaxVal
}

// copied answers rows in memory of their own.
func copied(rows []api.Row) []api.Row {
	all := make([]api.Row, len(rows))
	for i, r := range rows {
		all[i] = copiedRow(r)
	}
	return all
}

func copiedRow(r api.Row) api.Row {
	return api.Row{Key: strings.Clone(r.Key), Stamp: r.Stamp, Val: strings.Clone(r.Val)}
}
