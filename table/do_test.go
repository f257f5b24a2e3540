package table_test

import (
	"math/rand"
	"slices"
	"testing"
	"unsafe"

	"skylark/api"
	"skylark/table"
)

// Promise 9.1: none, and more than api.MaxOps, are refused of the first place, whatever they are; just as many are not.
func TestDoHowMany(t *testing.T) {
	x := holding(t, row("k", "v", 5))
	refuses(t, x, nil, 0, api.ErrBad)
	refuses(t, x, []api.Op{}, 0, api.ErrBad)
	gets := slices.Repeat([]api.Op{get("k", 0)}, 33)
	refuses(t, x, gets, 0, api.ErrBad)
	refuses(t, x, append(slices.Clone(gets[:32]), api.Op{}), 0, api.ErrBad)
	refuses(t, x, slices.Repeat([]api.Op{set("k", "w", 6, 0)}, 5000), 0, api.ErrBad)
	doesAll(t, x, gets[:32], slices.Repeat([]api.Result{fine(5, "v")}, 32)...)
	doesAll(t, x, gets[:1], fine(5, "v"))
}

// Promise 9.1: the first one that may not be is told, alone and among others, ahead of any that would not be OK, and nothing is done.
func TestDoBad(t *testing.T) {
	x := holding(t, row("k", "v", 5))
	for _, o := range badOps() {
		refuses(t, x, []api.Op{o}, 0, api.ErrBad)
		refuses(t, x, []api.Op{o, o}, 0, api.ErrBad)
		refuses(t, x, []api.Op{set("k", "w", 9, 0), o}, 1, api.ErrBad)
		refuses(t, x, []api.Op{get("j", 0), add("k", "", 1), o, get("k", 0), o}, 2, api.ErrBad)
		refuses(t, x, append(slices.Repeat([]api.Op{remove("k", 0)}, 31), o), 31, api.ErrBad)
	}
}

// Promise 9.1: one operation alone has its result, whatever its code; among others its code and its place are told.
func TestDoOneOrMore(t *testing.T) {
	x := holding(t, row("k", "v", 5))
	for _, y := range []struct {
		o    api.Op
		want api.Result
	}{
		{add("k", "", 6), failed(api.ErrExists, 5)}, {add("j", long(4097), 6), failed(api.ErrBig, 0)}, {get("j", 0), failed(api.ErrMissing, 0)},
		{set("k", "", 5, 0), failed(api.ErrStamp, 5)}, {remove("k", 4), failed(api.ErrStamp, 5)}, {replace("k", long(4097), 6, 5), failed(api.ErrBig, 0)},
	} {
		does(t, x, y.o, y.want)
		holds(t, x, row("k", "v", 5))
		refuses(t, x, []api.Op{y.o, y.o}, 0, y.want.Code)
		refuses(t, x, []api.Op{y.o, get("k", 0)}, 0, y.want.Code)
		refuses(t, x, []api.Op{get("k", 0), many("", 1), y.o, get("i", 0)}, 2, y.want.Code)
		refuses(t, x, append(slices.Repeat([]api.Op{get("k", 0)}, 31), y.o), 31, y.want.Code)
	}
}

// Promise 9.1: each operation is done on what the ones ahead left.
func TestDoOneByOne(t *testing.T) {
	x := holding(t, row("k", "v", 5))
	doesAll(t, x, []api.Op{
		add("a", "x", 1), get("a", 1), set("a", "y", 2, 1), get("a", 2), many("", 5), remove("k", 5), many("", 5), add("k", "w", 1), replace("k", "u", 2, 1), remove("a", 0), many("", 5),
	},
		fine(1, ""), fine(1, "x"), fine(2, ""), fine(2, "y"), api.Result{Rows: []api.Row{row("a", "y", 2), row("k", "v", 5)}}, fine(5, ""),
		api.Result{Rows: []api.Row{row("a", "y", 2)}}, fine(1, ""), fine(2, ""), fine(2, ""), api.Result{Rows: []api.Row{row("k", "u", 2)}})
	holds(t, x, row("k", "u", 2))
	refuses(t, x, []api.Op{remove("k", 0), get("k", 0)}, 1, api.ErrMissing)
	refuses(t, x, []api.Op{add("a", "", 1), add("a", "", 2)}, 1, api.ErrExists)
	refuses(t, x, []api.Op{set("k", "", 9, 2), set("k", "", 10, 2)}, 1, api.ErrStamp)
	refuses(t, x, []api.Op{add("a", "", 1), set("b", "", 1, 0), replace("k", "", 3, 0), remove("a", 0), add("c", long(4097), 1)}, 4, api.ErrBig)
}

// Promise 9.4: a micro-transaction is done whole or not at all, wherever in it one is not OK, and whatever was done ahead.
func TestDoWholeOrNotAtAll(t *testing.T) {
	rows := []api.Row{row("b", "1", 5), row("d", "2", 5), row("f", "3", 5)}
	writes := []api.Op{add("a", "x", 1), remove("b", 0), set("c", "x", 1, 0), replace("d", "x", 6, 5), set("f", "x", 6, 0), add("g", "x", 1)}
	for size := range len(writes) + 1 {
		refuses(t, holding(t, rows...), append(slices.Clone(writes[:size]), get("none", 0), get("f", 0)), size, api.ErrMissing)
	}
	x := holding(t, rows...)
	doesAll(t, x, writes, fine(1, ""), fine(5, ""), fine(1, ""), fine(6, ""), fine(6, ""), fine(1, ""))
	holds(t, x, row("a", "x", 1), row("c", "x", 1), row("d", "x", 6), row("f", "x", 6), row("g", "x", 1))
}

// Promises 9.1 and 9.4: drawn operations come to what the model's come to, alone and together.
func TestDoModel(t *testing.T) {
	r := rand.New(rand.NewSource(9))
	whole, refused := 0, 0
	for range 300 {
		x, m := table.New(), model{}
		for range 60 {
			ops := drawnOps(r)
			want, fault := m.do(ops)
			l, f := x.Do(ops)
			if f != fault || !slices.EqualFunc(l, want, sameResult) {
				t.Fatalf("%+.200v: %+.200v %v, not %+.200v %v", ops, l, f, want, fault)
			}
			holds(t, x, m.rows(api.Span{})...)
			if fault.Code != api.OK {
				refused++
			} else if len(ops) > 1 {
				whole++
			}
		}
	}
	if whole < 500 || refused < 500 {
		t.Error(whole, refused)
	}
}

// Promise 9.4: what reads changes nothing.
func TestReadsChangeNothing(t *testing.T) {
	rows := numbered(50)
	x := holding(t, rows...)
	for range 2 {
		doesAll(t, x, []api.Op{get("0003", 0), many("0002", 2), get("0004", 5)}, fine(4, "v"), api.Result{Rows: rows[2:4]}, fine(5, "v"))
		does(t, x, get("none", 0), failed(api.ErrMissing, 0))
		x.Rows(api.Span{From: "0007"})
		x.Fork()
		holds(t, x, rows...)
	}
}

// Promise 9.4: a key's stamp rises with each write, until it is taken away; then any may come.
func TestStampsRise(t *testing.T) {
	r := rand.New(rand.NewSource(94))
	x, last := table.New(), map[string]int{}
	written := 0
	for range 5000 {
		o := drawnOp(r)
		l, _ := x.Do([]api.Op{o})
		if l[0].Code != api.OK || o.Kind == api.OGet || o.Kind == api.OMany {
			continue
		}
		if o.Kind == api.ODelete {
			delete(last, o.Key)
			continue
		}
		if o.Stamp <= last[o.Key] {
			t.Fatal(o, last[o.Key])
		}
		last[o.Key] = o.Stamp
		written++
	}
	if written < 500 {
		t.Error(written)
	}
}

// Promise 9.4: operations on unlike keys come to the same in whatever order.
func TestUnlikeKeysInAnyOrder(t *testing.T) {
	r := rand.New(rand.NewSource(49))
	for range 2000 {
		x := holding(t, drawnRows(r)...)
		y := x.Fork()
		one, other := drawnOp(r), drawnOp(r)
		if one.Key == other.Key || one.Kind == api.OMany || other.Kind == api.OMany {
			continue
		}
		a, _ := x.Do([]api.Op{one})
		b, _ := x.Do([]api.Op{other})
		does(t, y, other, b[0])
		does(t, y, one, a[0])
		holds(t, y, x.Rows(api.Span{})...)
	}
}

// Rule R4: operations are neither changed nor kept, and those behind the list's length are not read.
func TestDoKeepsNoOperations(t *testing.T) {
	x := table.New()
	room := []api.Op{add("key", "val", 1), set("key", "val", 2, 1), {Kind: 99}}
	doesAll(t, x, room[:2], fine(1, ""), fine(2, ""))
	if !slices.Equal(room, []api.Op{add("key", "val", 1), set("key", "val", 2, 1), {Kind: 99}}) {
		t.Error(room)
	}
	room[1].Key, room[1].Val = "other", "other"
	holds(t, x, row("key", "val", 2))
}

// Rule R4: results are new memory, spare room too: no two share any, nor does the table.
func TestResultsAreNew(t *testing.T) {
	rows := numbered(5)
	x := holding(t, rows...)
	all, one := many("", 100), get("0001", 0)
	l, f := x.Do([]api.Op{all, all, one, one, many("0001", 2)})
	again, _ := x.Do([]api.Op{all})
	if f != (api.Fault{}) {
		t.Fatal(f)
	}
	if unsafe.StringData(l[2].Val) == unsafe.StringData(l[3].Val) || unsafe.StringData(l[0].Rows[0].Key) == unsafe.StringData(l[1].Rows[0].Key) {
		t.Error("shared")
	}
	for _, r := range []api.Result{l[0], l[4]} {
		room := r.Rows[:cap(r.Rows)]
		for i := range room {
			room[i] = row("changed", "", 99)
		}
	}
	if !slices.Equal(l[1].Rows, rows) || !slices.Equal(again[0].Rows, rows) {
		t.Error(l[1], again)
	}
	holds(t, x, rows...)
	clear(l[:cap(l)])
	holds(t, x, rows...)
}
