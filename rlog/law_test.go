package rlog_test

import (
	"fmt"
	"math/rand"
	"slices"
	"testing"

	"skylark/api"
	"skylark/rlog"
)

// drawnCall does one call, drawn, on a log and on its model, and fails unless both tell the same.
func drawnCall(t *testing.T, r *rand.Rand, l *rlog.Log, m *model, mark int) {
	t.Helper()
	at := m.base + r.Intn(m.last-m.base+3) - 1
	term := m.entries[at].Term
	if r.Intn(20) == 0 {
		term++
	}
	entries := of(drawnTerms(r, term+r.Intn(2))...)
	for i := range entries {
		entries[i].Data += fmt.Sprint(" of ", mark)
		if r.Intn(60) == 0 {
			entries[i].Data = long(4096 + r.Intn(2))
		}
	}
	switch r.Intn(8) {
	case 0, 1:
		e := api.Entry{Term: m.entries[m.last].Term + r.Intn(4) - 1, Data: fmt.Sprint(mark)}
		want, wantE := m.append(e)
		appends(t, l, e, want, wantE)
	case 2, 3:
		last, cut, e := m.merge(at, term, entries)
		merges(t, l, at, term, entries, last, cut, e)
	case 4:
		most := r.Intn(8) - 1
		want, wantE := m.slice(at, most)
		sliced(t, l, at, most, want, wantE)
	case 5:
		if got := l.Behind(at, term); got != m.behind(at, term) {
			t.Error(at, term, got)
		}
	case 6:
		match, commit := drawnMatch(r, m.base, m.last), r.Intn(m.last+3)-1
		want, wantE := m.agreed(match, term, commit)
		agrees(t, l, match, term, commit, want, wantE)
	default:
		if r.Intn(4) == 0 {
			told(t, l.Compact(at), m.compact(at))
		}
	}
}

// Promises 14.1 to 14.4: a log tells what its model tells, call by call; terms never fall along it.
func TestModel(t *testing.T) {
	for seed := range int64(200) {
		r := rand.New(rand.NewSource(seed))
		l, m := rlog.New(), newModel()
		for i := range 200 {
			drawnCall(t, r, l, m, i)
			shows(t, l, m.base, m.entries[m.base].Term, m.all()...)
			if !slices.IsSortedFunc(m.all(), func(a, b api.Entry) int { return a.Term - b.Term }) {
				t.Error(m.all())
			}
			if t.Failed() {
				t.Fatal(seed, i)
			}
		}
	}
}

// entriesOf are a log's entries up to a number; nothing of it was let go.
func entriesOf(t *testing.T, l *rlog.Log, last int) []api.Entry {
	t.Helper()
	list, e := l.Slice(1, last)
	told(t, e, api.OK)
	return list
}

// follow merges up to most entries of one log into another, from the greatest number on at which both have the same term; a number that the other has not, or has of another term, is told by it.
func follow(t *testing.T, from, to *rlog.Log, most int) int {
	t.Helper()
	prev, _ := from.Last()
	for ; ; prev-- {
		term, e := from.Term(prev)
		told(t, e, api.OK)
		entries, e := from.Slice(prev+1, most)
		told(t, e, api.OK)
		last, _, e := to.Merge(prev, term, entries)
		if e == api.OK {
			return last
		}
		if e != api.ErrIndex && e != api.ErrShape {
			t.Fatal(prev, e)
		}
	}
}

// same fails unless logs that have the same term at a number have the same entries up to there.
func same(t *testing.T, a, b *rlog.Log) {
	t.Helper()
	aLast, _ := a.Last()
	bLast, _ := b.Last()
	for n := min(aLast, bLast); n > 0; n-- {
		aTerm, _ := a.Term(n)
		bTerm, _ := b.Term(n)
		if aTerm == bTerm {
			if x, y := entriesOf(t, a, n), entriesOf(t, b, n); !slices.Equal(x, y) {
				t.Fatalf("%v: %v, but %v", n, x, y)
			}
			return
		}
	}
}

// Promise 14.5: logs that are merged from one have the same entries up to where they were, whatever each of them had from others before.
func TestMergedAlike(t *testing.T) {
	for seed := range int64(100) {
		r := rand.New(rand.NewSource(seed))
		var logs []*rlog.Log
		for range 5 {
			logs = append(logs, rlog.New())
		}
		for term := 1; term < 40; term++ {
			leader := logs[r.Intn(len(logs))]
			for i := range r.Intn(5) {
				_, e := leader.Append(api.Entry{Term: term, Data: fmt.Sprint(term, " ", i)})
				told(t, e, api.OK)
			}
			var ends []int
			var followers []*rlog.Log
			for _, l := range logs {
				if l != leader && r.Intn(2) == 0 {
					ends, followers = append(ends, follow(t, leader, l, r.Intn(6))), append(followers, l)
				}
			}
			for i, l := range followers {
				if !slices.Equal(entriesOf(t, l, ends[i]), entriesOf(t, leader, ends[i])) {
					t.Fatal(seed, term, i)
				}
				for k := range i {
					most := min(ends[i], ends[k])
					if !slices.Equal(entriesOf(t, l, most), entriesOf(t, followers[k], most)) {
						t.Fatal(seed, term, i, k)
					}
				}
			}
			for i := range logs {
				for k := range i {
					same(t, logs[i], logs[k])
				}
			}
		}
	}
}

// Promise 14.2: what comes late, or twice, takes nothing away that came since.
func TestMergedTwice(t *testing.T) {
	leader := holding(t, of(1, 1, 2, 2, 5, 5, 5)...)
	l := holding(t, of(1, 1, 1, 1)...)
	if last := follow(t, leader, l, 9); last != 7 {
		t.Error(last)
	}
	for prev, term := range []int{0, 1, 1, 2, 2, 5, 5, 5} {
		for most := range 9 {
			entries, e := leader.Slice(prev+1, most)
			told(t, e, api.OK)
			merges(t, l, prev, term, entries, prev+len(entries), 0, api.OK)
		}
	}
	if a, b := entriesOf(t, l, 9), entriesOf(t, leader, 9); len(a) != 7 || a[0] != b[0] || a[1] != b[1] || !slices.Equal(a[2:], b[2:]) {
		t.Error(a, b)
	}
}

// rise lets each of match rise, or stay, up to a little above last.
func rise(r *rand.Rand, match []int, last int) {
	for i := range match {
		match[i] = max(match[i], r.Intn(last+3))
	}
}

// Promise 14.5: what is agreed stays agreed when match rises and the log goes on, asked with commit as it was, or with what was agreed.
func TestAgreedStays(t *testing.T) {
	for seed := range int64(200) {
		r := rand.New(rand.NewSource(seed))
		l := rlog.New()
		match, commit := make([]int, 1+r.Intn(7)), r.Intn(10)
		agreed := commit
		for last := range 40 {
			appends(t, l, api.Entry{Term: 1}, last+1, api.OK)
			rise(r, match, last+1)
			n, e := l.Agreed(match, 1, commit)
			if n < agreed || e != api.OK {
				t.Fatal(seed, match, n, agreed, e)
			}
			agrees(t, l, match, 1, agreed, n, api.OK)
			agreed = n
		}
	}
}

// Promise 14.5: the same while terms rise and what was agreed is let go, asked with what was agreed.
func TestAgreedStaysBehindBase(t *testing.T) {
	for seed := range int64(200) {
		r := rand.New(rand.NewSource(seed))
		l := rlog.New()
		match := make([]int, 1+r.Intn(7))
		term, agreed := 1, 0
		for last := range 60 {
			term += r.Intn(4) / 3
			appends(t, l, api.Entry{Term: term}, last+1, api.OK)
			rise(r, match, last+1)
			n, e := l.Agreed(match, term, agreed)
			if n < agreed || n > last+1 || e != api.OK {
				t.Fatal(seed, match, n, agreed, e)
			}
			agreed = n
			if base, _ := l.Base(); r.Intn(3) == 0 {
				told(t, l.Compact(base+r.Intn(agreed-base+1)), api.OK)
			}
		}
		if agreed == 0 {
			t.Error(seed, match)
		}
	}
}
