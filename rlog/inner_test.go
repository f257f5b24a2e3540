package rlog

import (
	"slices"
	"strings"
	"testing"
	"unsafe"

	"skylark/api"
)

// filled is a log of entries of the term 1, with these texts.
func filled(t *testing.T, texts ...string) *Log {
	t.Helper()
	l := New()
	for _, s := range texts {
		if _, e := l.Append(api.Entry{Term: 1, Data: s}); e != api.OK {
			t.Fatal(e)
		}
	}
	return l
}

// Rule R4: the texts that a log keeps are its own, and those that it answers are others.
func TestTextsAreItsOwn(t *testing.T) {
	text := strings.Clone("text")
	l := filled(t, text)
	if _, _, e := l.Merge(1, 1, []api.Entry{{Term: 1, Data: text}}); e != api.OK {
		t.Fatal(e)
	}
	answered, _ := l.Slice(1, 2)
	for i, kept := range l.entries {
		if kept.Data != "text" || unsafe.StringData(kept.Data) == unsafe.StringData(text) {
			t.Error(i, kept)
		}
		if answered[i] != kept || unsafe.StringData(answered[i].Data) == unsafe.StringData(kept.Data) {
			t.Error(i, answered[i])
		}
	}
}

// Entries that were taken away at the end lie in no room that the log still has.
func TestCutIsKeptNowhere(t *testing.T) {
	l := filled(t, "a", "b", "c", "d")
	if _, cut, e := l.Merge(1, 1, []api.Entry{{Term: 2, Data: "x"}}); cut != 3 || e != api.OK {
		t.Fatal(cut, e)
	}
	for i, e := range l.entries[:cap(l.entries)] {
		if i >= len(l.entries) && e != (api.Entry{}) {
			t.Error(i, e)
		}
	}
}

// Entries that were let go lie in no room any more, be what is left much or little; and of a log without entries there is no room.
func TestLetGoIsKeptNowhere(t *testing.T) {
	for i := range 7 {
		l := filled(t, "a", "b", "c", "d", "e", "f")
		room := l.entries
		if e := l.Compact(i); e != api.OK {
			t.Fatal(i, e)
		}
		for k := range i {
			if room[k] != (api.Entry{}) {
				t.Error(i, k, room[k])
			}
		}
		if moved := len(l.entries) == 0 || &l.entries[0] != &room[i]; moved != (i >= 3) {
			t.Error(i, moved)
		}
	}
	l := filled(t, "a", "b")
	if e := l.Compact(2); e != api.OK || l.entries != nil {
		t.Error(e, l.entries)
	}
}

// An iterator ends where whoever ranges over it breaks off, and tells the same again.
func TestIteratorsEnd(t *testing.T) {
	l := filled(t, "a", "b", "c", "d")
	given := numbered(2, []api.Entry{{Term: 1}, {Term: 2}, {Term: 2}})
	for range 2 {
		for n := range given {
			if n != 2 {
				t.Error(n)
			}
			break
		}
		for n := range l.lacking(given) {
			if n != 3 {
				t.Error(n)
			}
			break
		}
		for n, e := range l.downward(3, 1) {
			if n != 3 || e.Data != "c" {
				t.Error(n, e)
			}
			break
		}
		for n, e := range l.upward(2, 3) {
			if n != 2 || e.Data != "b" {
				t.Error(n, e)
			}
			break
		}
	}
}

// What is lacking goes on to the end from the first entry of another term, even where terms are the same again.
func TestLackingGoesOn(t *testing.T) {
	l := New()
	if _, _, e := l.Merge(0, 0, []api.Entry{{Term: 1}, {Term: 3}, {Term: 3}, {Term: 4}}); e != api.OK {
		t.Fatal(e)
	}
	var numbers []int
	for n := range l.lacking(numbered(1, []api.Entry{{Term: 1}, {Term: 2}, {Term: 3}, {Term: 5}, {Term: 5}})) {
		numbers = append(numbers, n)
	}
	if !slices.Equal(numbers, []int{2, 3, 4, 5}) {
		t.Error(numbers)
	}
}
