package rlog_test

import (
	"fmt"
	"math"
	"math/rand"
	"slices"
	"strings"
	"testing"

	"skylark/api"
	"skylark/rlog"
)

// of are entries of these terms, each with a text of its own.
func of(terms ...int) []api.Entry {
	var list []api.Entry
	for i, term := range terms {
		list = append(list, api.Entry{Term: term, Data: fmt.Sprint(term, "/", i)})
	}
	return list
}

// long is a text of so many bytes.
func long(size int) string {
	return strings.Repeat("d", size)
}

// far are numbers far off, on either side.
func far() []int {
	return []int{math.MinInt, math.MinInt + 1, -1 << 40, -api.MaxIndex, -2, -1, api.MaxIndex + 1, api.MaxTerm + 1, 1 << 40, math.MaxInt - 1, math.MaxInt}
}

// holding is a log of these entries, appended one by one.
func holding(t *testing.T, entries ...api.Entry) *rlog.Log {
	t.Helper()
	l := rlog.New()
	for i, e := range entries {
		appends(t, l, e, i+1, api.OK)
	}
	return l
}

// based is a log of these terms whose entries up to base were let go.
func based(t *testing.T, base int, terms ...int) *rlog.Log {
	t.Helper()
	l := holding(t, of(terms...)...)
	told(t, l.Compact(base), api.OK)
	return l
}

// told fails unless a call answered that.
func told(t *testing.T, got, want api.Errno) {
	t.Helper()
	if got != want {
		t.Errorf("%v, not %v", got, want)
	}
}

// appends fails unless an entry is answered that number and that error.
func appends(t *testing.T, l *rlog.Log, e api.Entry, want int, wantE api.Errno) {
	t.Helper()
	if n, no := l.Append(e); n != want || no != wantE {
		t.Errorf("%.40v: %v %v, not %v %v", e, n, no, want, wantE)
	}
}

// merges fails unless Merge answers that.
func merges(t *testing.T, l *rlog.Log, prev, term int, entries []api.Entry, last, cut int, want api.Errno) {
	t.Helper()
	if n, k, e := l.Merge(prev, term, entries); n != last || k != cut || e != want {
		t.Errorf("%v %v %.80v: %v %v %v, not %v %v %v", prev, term, entries, n, k, e, last, cut, want)
	}
}

// sliced fails unless Slice answers that.
func sliced(t *testing.T, l *rlog.Log, from, most int, want []api.Entry, wantE api.Errno) {
	t.Helper()
	if list, e := l.Slice(from, most); !slices.Equal(list, want) || e != wantE {
		t.Errorf("%v %v: %.200v %v, not %.200v %v", from, most, list, e, want, wantE)
	}
}

// agrees fails unless Agreed answers that.
func agrees(t *testing.T, l *rlog.Log, match []int, term, commit, want int, wantE api.Errno) {
	t.Helper()
	if n, e := l.Agreed(match, term, commit); n != want || e != wantE {
		t.Errorf("%v %v %v: %v %v, not %v %v", match, term, commit, n, e, want, wantE)
	}
}

// shows fails unless a log has that base, of that term, and just these entries behind it, be it asked in whatever way.
func shows(t *testing.T, l *rlog.Log, base, term int, entries ...api.Entry) {
	t.Helper()
	if i, x := l.Base(); i != base || x != term {
		t.Errorf("base %v %v, not %v %v", i, x, base, term)
	}
	terms := []int{term}
	for _, e := range entries {
		terms = append(terms, e.Term)
	}
	if i, x := l.Last(); i != base+len(entries) || x != terms[len(entries)] {
		t.Errorf("last %v %v, not %v %v", i, x, base+len(entries), terms[len(entries)])
	}
	for i, want := range terms {
		if x, e := l.Term(base + i); x != want || e != api.OK {
			t.Errorf("term of %v: %v %v, not %v", base+i, x, e, want)
		}
	}
	sliced(t, l, base+1, math.MaxInt, entries, api.OK)
}

// model is a log by the chapter's words: all entries that it ever had in a map by their numbers, and which of them are there.
type model struct {
	base, last int
	entries    map[int]api.Entry
}

func newModel() *model {
	return &model{entries: map[int]api.Entry{}}
}

func (m *model) outside(i int) bool { return i < m.base || i > m.last }

func (m *model) all() []api.Entry {
	var list []api.Entry
	for i := m.base + 1; i <= m.last; i++ {
		list = append(list, m.entries[i])
	}
	return list
}

// refuses goes over the entries once for each error.
func (m *model) refuses(prev, term int, entries []api.Entry) api.Errno {
	for _, e := range entries {
		if e.Term < 1 || e.Term > 1<<30 {
			return api.ErrRange
		}
	}
	for i, e := range entries {
		if i == 0 && e.Term < term || i > 0 && e.Term < entries[i-1].Term {
			return api.ErrStale
		}
	}
	for _, e := range entries {
		if len(e.Data) > 4096 {
			return api.ErrLong
		}
	}
	if prev+len(entries) > 1<<20 {
		return api.ErrLong
	}
	return api.OK
}

func (m *model) append(e api.Entry) (int, api.Errno) {
	if no := m.refuses(m.last, m.entries[m.last].Term, []api.Entry{e}); no != api.OK {
		return 0, no
	}
	m.last++
	m.entries[m.last] = e
	return m.last, api.OK
}

func (m *model) merge(prev, term int, entries []api.Entry) (last, cut int, e api.Errno) {
	if m.outside(prev) {
		return 0, 0, api.ErrIndex
	}
	if m.entries[prev].Term != term {
		return 0, 0, api.ErrShape
	}
	if e := m.refuses(prev, term, entries); e != api.OK {
		return 0, 0, e
	}
	for i, e := range entries {
		if n := prev + 1 + i; n <= m.last && m.entries[n].Term != e.Term {
			cut = m.last - n + 1
			m.last = n - 1
			break
		}
	}
	for i, e := range entries {
		if n := prev + 1 + i; n == m.last+1 {
			m.entries[n] = e
			m.last = n
		}
	}
	return prev + len(entries), cut, api.OK
}

func (m *model) slice(from, most int) ([]api.Entry, api.Errno) {
	if from < m.base+1 || from > m.last+1 {
		return nil, api.ErrIndex
	}
	if most < 0 {
		return nil, api.ErrRange
	}
	list := m.all()[from-m.base-1:]
	return list[:min(most, len(list))], api.OK
}

func (m *model) behind(index, term int) bool {
	mine := m.entries[m.last].Term
	if term == mine {
		return !(index < m.last)
	}
	return term > mine
}

// agreed tries each number by counting.
func (m *model) agreed(match []int, term, commit int) (int, api.Errno) {
	if len(match) == 0 || commit < 0 {
		return 0, api.ErrRange
	}
	best := commit
	for n := m.base + 1; n <= m.last; n++ {
		have := 0
		for _, x := range match {
			if x >= n {
				have++
			}
		}
		if n > commit && m.entries[n].Term == term && 2*have > len(match) {
			best = n
		}
	}
	return best, api.OK
}

func (m *model) compact(i int) api.Errno {
	if m.outside(i) {
		return api.ErrIndex
	}
	m.base = i
	return api.OK
}

// drawnTerms are some that seldom fall, from about a term on.
func drawnTerms(r *rand.Rand, term int) []int {
	var terms []int
	for range r.Intn(6) {
		terms = append(terms, term)
		term += []int{0, 0, 0, 0, 0, 1, 1, 2}[r.Intn(8)]
		if r.Intn(40) == 0 {
			term -= 2
		}
	}
	return terms
}

// drawnMatch are some numbers, of which few lie outside of a log.
func drawnMatch(r *rand.Rand, base, last int) []int {
	var match []int
	for range r.Intn(8) {
		n := base + r.Intn(last-base+3) - 1
		if r.Intn(12) == 0 {
			n = far()[r.Intn(len(far()))]
		}
		match = append(match, n)
	}
	return match
}
