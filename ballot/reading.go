package ballot

import (
	"skylark/api"
	"skylark/code"
	"skylark/fields"
	"skylark/rlog"
)

// reading is what the lists of a file tell, up to where it was read. Entries are a plain list, from which some can be taken away without others that come in their place.
type reading struct {
	nodes      int
	term, vote int
	entries    []api.Entry
}

// takeAll reads a file up to its end, or to a frame that ends early, and answers the place behind the last whole frame; false, if there is anything that could not be.
func (r *reading) takeAll(file string) (end int, ok bool) {
	for end < len(file) {
		body, next, f := code.Unframe(file, end)
		if f.Code == api.ErrEnd {
			break
		}
		if f.Code != api.OK {
			return 0, false
		}
		list, f := code.Decode(body)
		if f.Code != api.OK || !r.take(fields.Read(list)) {
			return 0, false
		}
		end = next
	}
	return end, true
}

// take does what a list of the file tells, and tells whether it could be.
func (r *reading) take(list *fields.Reader) bool {
	mark, n := list.Number(), list.Number()
	switch {
	case mark == markStanding && !isTerm(n):
		return false
	case mark == markStanding && n > r.term:
		// A new term has no vote yet, and then takes what is told as one that goes on does.
		r.term, r.vote = n, nobody
		fallthrough
	case mark == markStanding && n == r.term:
		return r.takeVote(list.Number()) && list.IsDone()
	case mark == markEntry && n <= r.term:
		return r.takeEntry(api.Entry{Term: n, Data: list.Text()}) && list.IsDone()
	case mark == markCut:
		return r.takeCut(n) && list.IsDone()
	}
	return false
}

// takeVote takes a vote in this term: the one that it has, or any, if it has none yet.
func (r *reading) takeVote(vote int) bool {
	if vote < nobody || vote >= r.nodes {
		return false
	}
	if r.vote != nobody && r.vote != vote {
		return false
	}
	r.vote = vote
	return true
}

// takeEntry puts an entry behind the last one. A log of that one alone refuses what the whole log would: that there are too many entries can't be, for no disk has room for their frames.
func (r *reading) takeEntry(entry api.Entry) bool {
	l := rlog.New()
	if many := len(r.entries); many > 0 {
		l.Append(r.entries[many-1])
	}
	if _, e := l.Append(entry); e != api.OK {
		return false
	}
	r.entries = append(r.entries, entry)
	return true
}

// takeCut takes the entries from a number on away.
func (r *reading) takeCut(first int) bool {
	if first < 1 || first > len(r.entries) {
		return false
	}
	r.entries = r.entries[:first-1]
	return true
}
