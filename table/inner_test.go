package table

import (
	"slices"
	"strings"
	"testing"
	"unsafe"

	"skylark/api"
)

// Rule R4: the texts that a table keeps are its own, whichever call they came by.
func TestKeepsNoTexts(t *testing.T) {
	for i, put := range []func(t *Table, r api.Row){
		func(t *Table, r api.Row) { t.Take([]api.Row{r}) },
		func(t *Table, r api.Row) {
			t.Do([]api.Op{{Kind: api.OAdd, Key: r.Key, Val: r.Val, Stamp: r.Stamp}})
		},
		func(t *Table, r api.Row) {
			t.Do([]api.Op{{Kind: api.OSet, Key: r.Key, Val: r.Val, Stamp: r.Stamp}})
		},
		func(t *Table, r api.Row) {
			t.Take([]api.Row{{Key: r.Key, Stamp: 1}})
			t.Do([]api.Op{{Kind: api.OReplace, Key: r.Key, Val: r.Val, Stamp: r.Stamp}})
		},
	} {
		r := api.Row{Key: strings.Clone("key"), Stamp: 5, Val: strings.Clone("val")}
		x := New()
		put(x, r)
		if len(x.rows) != 1 || x.rows[0] != r {
			t.Fatal(i, x.rows)
		}
		if unsafe.StringData(x.rows[0].Key) == unsafe.StringData(r.Key) || unsafe.StringData(x.rows[0].Val) == unsafe.StringData(r.Val) {
			t.Error(i)
		}
	}
}

// Rule R4: the texts that are answered are not those that the table keeps.
func TestAnswersNoTexts(t *testing.T) {
	x := New()
	x.Take([]api.Row{{Key: "key", Stamp: 1, Val: "val"}})
	kept := unsafe.StringData(x.rows[0].Val)
	l, _ := x.Do([]api.Op{{Kind: api.OGet, Key: "key"}, {Kind: api.OMany, Most: 1}})
	for i, val := range []string{l[0].Val, l[1].Rows[0].Val, x.Rows(api.Span{})[0].Val} {
		if val != "val" || unsafe.StringData(val) == kept {
			t.Error(i, val)
		}
	}
}

// Promise 9.2: a list that forks may have is not written to by any call, its spare room neither.
func TestListsStayAsTheyAre(t *testing.T) {
	for i, change := range []func(t *Table){
		func(t *Table) { t.Do([]api.Op{{Kind: api.OAdd, Key: "a", Stamp: 1}}) },
		func(t *Table) { t.Do([]api.Op{{Kind: api.OAdd, Key: "z", Stamp: 1}}) },
		func(t *Table) { t.Do([]api.Op{{Kind: api.OSet, Key: "d", Stamp: 1}}) },
		func(t *Table) { t.Do([]api.Op{{Kind: api.OSet, Key: "c", Stamp: 9}}) },
		func(t *Table) { t.Do([]api.Op{{Kind: api.ODelete, Key: "b"}}) },
		func(t *Table) { t.Do([]api.Op{{Kind: api.ODelete, Key: "e"}, {Kind: api.OAdd, Key: "f", Stamp: 1}}) },
		func(t *Table) { t.Take([]api.Row{{Key: "b", Stamp: 9}, {Key: "z", Stamp: 9}}) },
		func(t *Table) { t.Drop(api.Span{From: "c"}) },
		func(t *Table) { t.Drop(api.Span{To: "d"}) },
	} {
		room := []api.Row{{Key: "b", Stamp: 1}, {Key: "c", Stamp: 1}, {Key: "e", Stamp: 1}, {Key: "spare"}, {Key: "room"}}
		was := slices.Clone(room)
		x := &Table{rows: room[:3]}
		y := x.Fork()
		change(x)
		if !slices.Equal(room, was) || slices.Equal(x.rows, room[:3]) {
			t.Error(i, room, x.rows)
		}
		change(y)
		if !slices.Equal(room, was) || !slices.Equal(x.rows, y.rows) {
			t.Error(i, room, y.rows)
		}
	}
}

// Promise 9.2: a fork has no room behind its rows that it could share.
func TestForkHasNoRoom(t *testing.T) {
	x := &Table{rows: make([]api.Row, 3, 9)}
	if y := x.Fork(); len(y.rows) != 3 || cap(y.rows) != 3 {
		t.Error(len(y.rows), cap(y.rows))
	}
}

// Rows that were taken away, the last ones too, lie in no room that the table still has.
func TestTakenAwayIsKeptNowhere(t *testing.T) {
	for i, change := range []func(t *Table){
		func(t *Table) { t.Do([]api.Op{{Kind: api.ODelete, Key: "c"}}) },
		func(t *Table) { t.Drop(api.Span{From: "b"}) },
	} {
		x := New()
		x.Take([]api.Row{{Key: "a", Stamp: 1}, {Key: "b", Stamp: 1}, {Key: "c", Stamp: 1}})
		first := &x.rows[0]
		change(x)
		if len(x.rows) == 0 || &x.rows[0] == first {
			t.Error(i)
		}
	}
}
