package layout

import (
	"slices"
	"strings"

	"skylark/api"
)

// stand is where a change stands. It is compared whole, so that the end is told apart from each cursor, from the empty one too, at which no key has moved.
type stand struct {
	cursor string
	done   bool
}

// end is behind all keys.
func end() stand {
	return stand{done: true}
}

// standAt is where a change stands whose keys in a list have moved up to a number.
func standAt(keys []string, number int) stand {
	if number == len(keys) {
		return end()
	}
	return stand{cursor: strings.Clone(keys[number])}
}

// mayBe tells whether a change may stand so: at the end there is no cursor.
func (s stand) mayBe() bool {
	return len(s.cursor) <= api.MaxKey && (!s.done || s == end())
}

// isPast tells whether a key lies as the new layout says.
func (s stand) isPast(key string) bool {
	return s == end() || key < s.cursor
}

// ahead answers which keys of a rising list are next, at most so many: from one number on, below another.
func (s stand) ahead(keys []string, most int) (from, to int) {
	if s == end() {
		return len(keys), len(keys)
	}
	from, _ = slices.BinarySearch(keys, s.cursor)
	return from, from + min(most, len(keys)-from)
}

// areKeysRising tells whether all of a list are keys, each above the one ahead of it.
func areKeysRising(keys []string) bool {
	for i, key := range keys {
		if len(key) < 1 || len(key) > api.MaxKey {
			return false
		}
		if i > 0 && key <= keys[i-1] {
			return false
		}
	}
	return true
}
