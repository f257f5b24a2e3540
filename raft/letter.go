package raft

import (
	"skylark/api"
	"skylark/code"
	"skylark/fields"
)

// What letters' lists begin with.
const (
	markAsking  = 1
	markVote    = 2
	markEntries = 3
	markAnswer  = 4
)

// maxNumber is how great a letter's numbers may be.
const maxNumber = 1 << 30

// letter is what one node tells another: the term in which it does, its list, and what it does to the node that hears it.
type letter interface {
	ofTerm() int
	fields() []api.Field
	heardBy(n *Node, from int) api.Errno
}

// header is what letters of all kinds have: the term of the node that sent them.
type header struct {
	term int
}

func (h header) ofTerm() int {
	return h.term
}

// asking asks for a vote, and tells how far the log of the one that asks is.
type asking struct {
	header
	last, lastTerm int
}

func (a asking) fields() []api.Field {
	return numbers(markAsking, a.term, a.last, a.lastTerm)
}

// vote is given, or not.
type vote struct {
	header
	isGiven bool
}

func (v vote) fields() []api.Field {
	return numbers(markVote, v.term, oneIf(v.isGiven))
}

// entries are a leader's: those behind a number and the term there, and up to where its log is committed.
type entries struct {
	header
	prev, prevTerm int
	committed      int
	list           []api.Entry
}

func (s entries) fields() []api.Field {
	l := numbers(markEntries, s.term, s.prev, s.prevTerm, s.committed, len(s.list))
	for _, e := range s.list {
		l = append(l, fields.Number(e.Term), fields.Text(e.Data))
	}
	return l
}

// answer tells a leader whether its entries were taken, and up to where the log is as the leader's, or just how long it is.
type answer struct {
	header
	isTaken bool
	number  int
}

func (a answer) fields() []api.Field {
	return numbers(markAnswer, a.term, oneIf(a.isTaken), a.number)
}

// letterIn answers the letter whose bytes they are, if there is one.
func letterIn(bytes string) (letter, bool) {
	l, f := code.Decode(bytes)
	if f.Code != api.OK {
		return nil, false
	}
	r := reader{fields.Read(l)}
	x, ok := r.letter(r.Number(), header{r.term()})
	if !ok || !r.IsDone() {
		return nil, false
	}
	return x, true
}

// reader takes letters from a list, part by part.
type reader struct {
	*fields.Reader
}

// letter takes what stands behind a letter's mark and term.
func (r reader) letter(mark int, h header) (letter, bool) {
	switch mark {
	case markAsking:
		return asking{h, r.number(), r.number()}, true
	case markVote:
		return vote{h, r.isOne()}, true
	case markEntries:
		return entries{h, r.number(), r.number(), r.number(), r.entries()}, true
	case markAnswer:
		return answer{h, r.isOne(), r.number()}, true
	}
	return nil, false
}

func (r reader) entries() []api.Entry {
	var l []api.Entry
	for range r.Count(api.MaxItems) {
		l = append(l, api.Entry{Term: r.term(), Data: r.Text()})
	}
	return l
}

// term takes a term that is one: the term where no entry stands, which is 0, is taken as a number.
func (r reader) term() int {
	return r.Within(1, api.MaxTerm)
}

func (r reader) number() int {
	return r.Within(0, maxNumber)
}

func (r reader) isOne() bool {
	return r.Within(0, 1) == 1
}

// numbers answers a list of numbers alone.
func numbers(all ...int) []api.Field {
	var l []api.Field
	for _, x := range all {
		l = append(l, fields.Number(x))
	}
	return l
}

func oneIf(holds bool) int {
	if holds {
		return 1
	}
	return 0
}
