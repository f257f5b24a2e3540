package brick

import (
	"strconv"

	"skylark/api"
	"skylark/code"
	"skylark/fields"
)

const (
	// namePrefix stands ahead of a brick's number in its state file's name.
	namePrefix = "state."
	// draftName is the name under which all bricks of a node, one after the other, write their states.
	draftName = namePrefix + "new"
)

func nameOf(number int) string {
	return namePrefix + strconv.Itoa(number)
}

// standing is a row as it stands in a state.
type standing struct {
	key   string
	stamp int
	val   value
}

// state is what a state file tells: the number behind the last record that it holds, and rows.
type state struct {
	behind int
	rows   []standing
}

func (s state) fields() []api.Field {
	list := []api.Field{fields.Number(s.behind), fields.Number(len(s.rows))}
	for _, x := range s.rows {
		list = append(list, fields.Text(x.key), fields.Number(x.stamp))
		list = append(list, x.val.fields()...)
	}
	return list
}

// frame answers the bytes of a state file.
func (s state) frame() (string, api.Errno) {
	body, e := code.Encode(s.fields())
	if e != api.OK {
		return "", e
	}
	return code.Frame(body)
}

// stateIn answers the state that a file tells, if it is one, and nothing besides.
func stateIn(file string) (state, bool) {
	body, end, f := code.Unframe(file, 0)
	if f.Code != api.OK || end != len(file) {
		return state{}, false
	}
	l, f := code.Decode(body)
	if f.Code != api.OK {
		return state{}, false
	}
	list := fields.Read(l)
	s := state{behind: list.Number()}
	// Rows are taken as long as there are any, so that the number of them, which may be any, is never counted up to.
	many := list.Number()
	for list.GoesOn() {
		s.rows = append(s.rows, standing{key: list.Text(), stamp: list.Number(), val: valueFrom(list)})
	}
	return s, list.IsDone() && len(s.rows) == many
}

// load takes what the state file tells, and answers up to which record that is. A brick without one begins where the log does.
func (b *Brick) load() (int, api.Errno) {
	file, e := b.disk.Read(nameOf(b.number))
	if e != api.OK {
		return b.log.First(), api.OK
	}
	s, ok := stateIn(file)
	if !ok || s.behind < b.log.First() || s.behind > b.log.Next() || !b.take(s.rows) {
		return 0, api.ErrCorrupt
	}
	return s.behind, api.OK
}

// take puts rows of a state into the table, and tells whether they could be a table's, each value as one of its length stands.
func (b *Brick) take(list []standing) bool {
	var rows []api.Row
	for _, x := range list {
		row := api.Row{Key: x.key, Stamp: x.stamp}
		isPlaced := false
		switch val := x.val.(type) {
		case plain:
			row.Val = string(val)
		case placed:
			s, e := b.values.Get(api.Place(val))
			if e != api.OK {
				return false
			}
			row.Val, isPlaced = s, true
			b.places[x.key] = api.Place(val)
		}
		if isBig(row.Val) != isPlaced {
			return false
		}
		rows = append(rows, row)
	}
	return b.table.Take(rows) == api.OK
}

// settle puts big values that have no place yet. What was put stays so when a later one is refused; it need not be put again.
func (b *Brick) settle() api.Errno {
	for _, row := range b.table.Rows(api.Span{}) {
		if _, there := b.places[row.Key]; there || !isBig(row.Val) {
			continue
		}
		p, e := b.values.Put(row.Val)
		if e != api.OK {
			return e
		}
		b.places[row.Key] = p
	}
	return api.OK
}

// write writes the state to a file of its own. What a crash left there of another one is removed first.
func (b *Brick) write() api.Errno {
	if e := b.disk.Remove(draftName); e != api.OK && e != api.ErrNone {
		return e
	}
	frame, e := b.state().frame()
	if e != api.OK {
		return e
	}
	return b.disk.Append(draftName, frame)
}

// state answers the state as it is, when all big values have places.
func (b *Brick) state() state {
	s := state{behind: b.log.Next()}
	for _, row := range b.table.Rows(api.Span{}) {
		x := standing{key: row.Key, stamp: row.Stamp, val: plain(row.Val)}
		if p, there := b.places[row.Key]; there {
			x.val = placed(p)
		}
		s.rows = append(s.rows, x)
	}
	return s
}
