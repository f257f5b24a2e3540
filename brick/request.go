package brick

import (
	"slices"

	"skylark/api"
	"skylark/op"
	"skylark/table"
)

// attempt does a request on a fork of the table, and answers both the fork and the reply.
func (b *Brick) attempt(r api.Request) (*table.Table, api.Reply) {
	draft := b.table.Fork()
	results, fault := draft.Do(r.Ops)
	return draft, api.Reply{Client: r.Client, Seq: r.Seq, Results: results, Fault: fault}
}

// isDone tells whether all operations of a request were done: what is refused of one alone is told by its result, and not by a fault.
func isDone(p api.Reply) bool {
	return p.Fault.Code == api.OK && !slices.ContainsFunc(p.Results, isRefused)
}

func isRefused(r api.Result) bool {
	return r.Code != api.OK
}

// note appends the record of a request to the log.
func (b *Brick) note(r api.Request) api.Errno {
	body, e := op.Encode(r)
	if e == api.OK {
		_, e = b.log.Append(b.number, body)
	}
	if e == api.OK {
		b.held = b.log.Next()
	}
	return e
}

// turn takes the table that operations left, and lets go the places of rows that are not in it any more. Rows are held against each other whole: one that was taken away and put in again as it was is still there.
func (b *Brick) turn(to *table.Table, ops []api.Op) {
	for _, x := range ops {
		if rowOf(b.table, x.Key) != rowOf(to, x.Key) {
			delete(b.places, x.Key)
		}
	}
	b.table = to
}

// rowOf answers the row of a key; one without a key, if there is none.
func rowOf(t *table.Table, key string) api.Row {
	rows := t.Rows(api.Span{From: key, To: key + "\x00"})
	if len(rows) == 0 {
		return api.Row{}
	}
	return rows[0]
}

// replay does the brick's records from a number on once more.
func (b *Brick) replay(from int) api.Errno {
	records, e := b.log.Read(from, b.log.Next()-from)
	if e != api.OK {
		return e
	}
	for _, r := range records {
		if r.Brick == b.number && !b.redo(r.Body) {
			return api.ErrCorrupt
		}
	}
	return api.OK
}

// redo does a record's request, and tells whether it is one that was done when it was noted.
func (b *Brick) redo(body string) bool {
	r, e := op.Decode(body)
	if e != api.OK {
		return false
	}
	draft, p := b.attempt(r)
	if !isDone(p) {
		return false
	}
	b.turn(draft, r.Ops)
	return true
}
