package table_test

import (
	"math"
	"math/rand"
	"slices"
	"strings"
	"testing"
	"unsafe"

	"skylark/api"
	"skylark/table"
)

// spans are some with and without an end, also those that may not be, and which of the keys a, b, ba and c they have.
func spans() map[api.Span]string {
	return map[api.Span]string{
		{}: "a b ba c", {From: "a"}: "a b ba c", {From: "a\x00"}: "b ba c", {From: "b"}: "b ba c", {From: "b\x00"}: "ba c", {From: "ba"}: "ba c", {From: "c"}: "c", {From: "c\x00"}: "", {From: "\xff"}: "",
		{To: "a"}: "", {To: "a\x00"}: "a", {To: "b"}: "a", {To: "ba"}: "a b", {To: "c"}: "a b ba", {To: "d"}: "a b ba c",
		{From: "a", To: "c"}: "a b ba", {From: "b", To: "ba"}: "b", {From: "b", To: "bb"}: "b ba", {From: "aa", To: "b"}: "", {From: "b", To: "b"}: "", {From: "c", To: "a"}: "", {From: "d", To: "c"}: "",
		{From: long(65)}: "", {To: long(65)}: "a b ba c", {From: "b", To: strings.Repeat("z", 5000)}: "b ba c", {From: strings.Repeat("a", 5000), To: "bb"}: "b ba", {From: strings.Repeat("z", 70), To: strings.Repeat("z", 66)}: "",
	}
}

func abbac() []api.Row {
	return []api.Row{row("a", "1", 1), row("b", "2", 2), row("ba", "3", 3), row("c", "4", 4)}
}

// Promise 9.2: the rows of a span, by keys, whatever the span.
func TestRows(t *testing.T) {
	x := holding(t, abbac()...)
	for s, want := range spans() {
		var rows []api.Row
		for _, r := range abbac() {
			if slices.Contains(strings.Fields(want), r.Key) {
				rows = append(rows, r)
			}
		}
		if l := x.Rows(s); !slices.Equal(l, rows) {
			t.Errorf("%.40v: %v, not %v", s, l, rows)
		}
		if l := table.New().Rows(s); len(l) != 0 {
			t.Errorf("%.40v: %v", s, l)
		}
	}
	holds(t, x, abbac()...)
}

// Promise 9.3: the rows of a span are taken away, and no others; how many is told.
func TestDrop(t *testing.T) {
	for s, want := range spans() {
		x := holding(t, abbac()...)
		var left []api.Row
		for _, r := range abbac() {
			if !slices.Contains(strings.Fields(want), r.Key) {
				left = append(left, r)
			}
		}
		if n := x.Drop(s); n != 4-len(left) {
			t.Errorf("%.40v: %v", s, n)
		}
		holds(t, x, left...)
		if n := x.Drop(s); n != 0 {
			t.Errorf("%.40v: %v", s, n)
		}
		holds(t, x, left...)
	}
	if n := table.New().Drop(api.Span{}); n != 0 {
		t.Error(n)
	}
}

// Promise 9.3: a table that was full and is dropped takes rows again.
func TestDropFull(t *testing.T) {
	x := holding(t, numbered(4096)...)
	if n := x.Drop(api.Span{From: "1", To: "3"}); n != 2000 {
		t.Error(n)
	}
	does(t, x, add("2", "v", 1), fine(1, ""))
	if x.Len() != 2097 {
		t.Error(x.Len())
	}
	if n := x.Drop(api.Span{}); n != 2097 {
		t.Error(n)
	}
	holds(t, x)
}

// Promise 9.2: how many rows there are, behind each change.
func TestLen(t *testing.T) {
	x := table.New()
	long := func(want int) {
		t.Helper()
		if x.Len() != want {
			t.Fatal(x.Len(), want)
		}
	}
	long(0)
	does(t, x, add("k", "", 1), fine(1, ""))
	long(1)
	does(t, x, set("k", "", 2, 0), fine(2, ""))
	long(1)
	doesAll(t, x, []api.Op{add("a", "", 1), add("z", "", 1)}, fine(1, ""), fine(1, ""))
	long(3)
	does(t, x, remove("k", 0), fine(2, ""))
	long(2)
}

// Promise 9.3: rows are put in, in the place of those that have their keys, also such of a stamp above theirs.
func TestTake(t *testing.T) {
	x := table.New()
	takes := func(rows []api.Row, want ...api.Row) {
		t.Helper()
		if e := x.Take(rows); e != api.OK {
			t.Fatal(e)
		}
		holds(t, x, want...)
	}
	takes(nil)
	takes([]api.Row{})
	takes([]api.Row{row("b", "x", 9), row("d", "x", 9)}, row("b", "x", 9), row("d", "x", 9))
	takes(nil, row("b", "x", 9), row("d", "x", 9))
	takes([]api.Row{row("d", "y", 1)}, row("b", "x", 9), row("d", "y", 1))
	takes([]api.Row{row("a", "z", 2), row("b", "z", 9), row("c", "z", 2), row("e", "z", 2)}, row("a", "z", 2), row("b", "z", 9), row("c", "z", 2), row("d", "y", 1), row("e", "z", 2))
	takes([]api.Row{row("\x00", "", 1)}, row("\x00", "", 1), row("a", "z", 2), row("b", "z", 9), row("c", "z", 2), row("d", "y", 1), row("e", "z", 2))
	x = table.New()
	edges := []api.Row{row("\x00", "", 1), row("k", long(4096), 1<<40), row(long(64), "", 1)}
	takes(edges, edges...)
	does(t, x, get("k", 0), fine(1<<40, long(4096)))
}

// Promise 9.3: what is no row is refused, wherever it is, also behind keys that do not rise, and nothing is put in.
func TestTakeBad(t *testing.T) {
	for _, r := range []api.Row{
		{}, row("", "v", 1), row(long(65), "v", 1), row(long(5000), "v", 1), row("z", "v", 0), row("z", "v", -1), row("z", "v", 1<<40+1),
		row("z", "v", math.MinInt), row("z", "v", math.MaxInt), row("z", long(4097), 1), row("z", long(8192), 1),
	} {
		for _, rows := range [][]api.Row{{r}, {row("a", "w", 2), r}, {r, row("zz", "w", 2)}, {row("zz", "w", 2), r}, {row("b", "", 1), row("a", "", 1), r}, {row("b", "", 1), row("b", "", 1), r}} {
			takesNot(t, rows, api.ErrBad)
		}
		takesNot(t, append(numbered(4097), r), api.ErrBad)
	}
}

// takesNot fails if rows are not refused so, or change something.
func takesNot(t *testing.T, rows []api.Row, code api.Errno) {
	t.Helper()
	was := []api.Row{row("a", "u", 5), row("m", "u", 5)}
	x := holding(t, was...)
	if e := x.Take(rows); e != code {
		t.Fatalf("%.80v: %v, not %v", rows, e, code)
	}
	holds(t, x, was...)
}

// Promise 9.3: keys that do not rise are refused, be there room or not.
func TestTakeShape(t *testing.T) {
	for _, keys := range [][]string{{"b", "a"}, {"b", "b"}, {"a", "c", "b"}, {"a", "b", "b"}, {"aa", "a"}, {"\xff", "\x00"}, {"a", "b", "c", "a"}} {
		var rows []api.Row
		for _, key := range keys {
			rows = append(rows, row(key, "v", 1))
		}
		takesNot(t, rows, api.ErrShape)
		takesNot(t, append(numbered(4097), rows...), api.ErrShape)
	}
}

// Promise 9.3: there may be api.MaxItems rows in all, those counted once that take another's place.
func TestTakeSpace(t *testing.T) {
	rows := numbered(4097)
	x := table.New()
	if e := x.Take(rows); e != api.ErrSpace {
		t.Fatal(e)
	}
	holds(t, x)
	x = holding(t, rows[:4096]...)
	if e := x.Take(rows[4096:]); e != api.ErrSpace {
		t.Fatal(e)
	}
	if e := x.Take(rows); e != api.ErrSpace {
		t.Fatal(e)
	}
	if e := x.Take([]api.Row{row("", "v", 1)}); e != api.ErrBad {
		t.Fatal(e)
	}
	holds(t, x, rows[:4096]...)
	if e := x.Take(rows[1000:4096]); e != api.OK {
		t.Fatal(e)
	}
	if e := x.Take([]api.Row{row("0000", "new", 1), row("4095", "new", 1)}); e != api.OK {
		t.Fatal(e)
	}
	holds(t, x, slices.Concat([]api.Row{row("0000", "new", 1)}, rows[1:4095], []api.Row{row("4095", "new", 1)})...)
	y := holding(t, rows[:4000]...)
	if e := y.Take(rows[3900:4096]); e != api.OK {
		t.Fatal(e)
	}
	holds(t, y, rows[:4096]...)
}

// Promise 9.2: a fork has the same rows, and goes its own way, whichever of the two changes, and how.
func TestFork(t *testing.T) {
	changes := []func(x *table.Table){
		func(x *table.Table) { x.Do([]api.Op{add("0", "", 1)}) },
		func(x *table.Table) { x.Do([]api.Op{add("bb", "", 1)}) },
		func(x *table.Table) { x.Do([]api.Op{add("d", "", 1)}) },
		func(x *table.Table) { x.Do([]api.Op{set("a", "new", 9, 0)}) },
		func(x *table.Table) { x.Do([]api.Op{replace("c", "new", 9, 0)}) },
		func(x *table.Table) { x.Do([]api.Op{remove("a", 0), add("d", "", 1)}) },
		func(x *table.Table) { x.Do([]api.Op{remove("c", 0), add("c", "new", 1)}) },
		func(x *table.Table) { x.Take([]api.Row{row("a", "new", 1), row("d", "", 1)}) },
		func(x *table.Table) { x.Take([]api.Row{row("z", "", 1)}) },
		func(x *table.Table) { x.Drop(api.Span{From: "b"}) },
		func(x *table.Table) { x.Drop(api.Span{To: "b"}) },
		func(x *table.Table) { x.Drop(api.Span{From: "b", To: "c"}) },
	}
	for i, one := range changes {
		for j, other := range changes {
			x := holding(t, abbac()...)
			alone := holding(t, abbac()...)
			y := x.Fork()
			holds(t, y, abbac()...)
			one(x)
			holds(t, y, abbac()...)
			behind := x.Rows(api.Span{})
			z := x.Fork()
			other(y)
			other(alone)
			holds(t, x, behind...)
			holds(t, z, behind...)
			if !slices.Equal(y.Rows(api.Span{}), alone.Rows(api.Span{})) {
				t.Error(i, j)
			}
		}
	}
	holds(t, table.New().Fork())
}

// Promise 9.2: two that are forks of one put unlike rows behind its last, and have their own.
func TestForksPutBehind(t *testing.T) {
	x := table.New()
	for i, r := range numbered(70) {
		does(t, x, add(r.Key, r.Val, r.Stamp), fine(r.Stamp, ""))
		y, z := x.Fork(), x.Fork()
		does(t, y, add("y", "of y", 1), fine(1, ""))
		does(t, z, add("z", "of z", 2), fine(2, ""))
		does(t, x, get("y", 0), failed(api.ErrMissing, 0))
		holds(t, y, append(numbered(i+1), row("y", "of y", 1))...)
		holds(t, z, append(numbered(i+1), row("z", "of z", 2))...)
		holds(t, x, numbered(i+1)...)
	}
}

// Promises 9.1 to 9.3: tables and their forks do what models do, whatever call comes.
func TestAllCallsModel(t *testing.T) {
	r := rand.New(rand.NewSource(93))
	tables, models := []*table.Table{table.New()}, []model{{}}
	for range 6000 {
		i := r.Intn(len(tables))
		x, m := tables[i], models[i]
		s := drawnSpan(r)
		switch r.Intn(6) {
		case 0:
			rows := drawnRows(r)
			if e := x.Take(rows); e != api.OK {
				t.Fatal(rows, e)
			}
			for _, row := range rows {
				m[row.Key] = row
			}
		case 1:
			gone := m.rows(s)
			if n := x.Drop(s); n != len(gone) {
				t.Fatal(s, n, len(gone))
			}
			for _, row := range gone {
				delete(m, row.Key)
			}
		case 2:
			j := r.Intn(8)
			if j >= len(tables) {
				tables, models = append(tables, nil), append(models, nil)
				j = len(tables) - 1
			}
			tables[j], models[j] = x.Fork(), model{}
			for key, row := range m {
				models[j][key] = row
			}
		default:
			ops := drawnOps(r)
			want, fault := m.do(ops)
			if l, f := x.Do(ops); f != fault || !slices.EqualFunc(l, want, sameResult) {
				t.Fatalf("%+.200v: %+.200v %v, not %+.200v %v", ops, l, f, want, fault)
			}
		}
		if l := x.Rows(s); !slices.Equal(l, m.rows(s)) {
			t.Fatal(s, l, m.rows(s))
		}
		for i, x := range tables {
			holds(t, x, models[i].rows(api.Span{})...)
		}
	}
}

// Rule R4: rows that are taken are neither changed nor kept, and those behind the list's length are not read.
func TestTakeKeepsNoRows(t *testing.T) {
	room := []api.Row{row("key", "val", 1), row("l", "", 1), {}}
	x := holding(t, room[:2]...)
	if !slices.Equal(room, []api.Row{row("key", "val", 1), row("l", "", 1), {}}) {
		t.Error(room)
	}
	room[0] = row("other", "other", 9)
	holds(t, x, row("key", "val", 1), row("l", "", 1))
}

// Rule R4: the rows that are answered are new memory, spare room too.
func TestRowsAreNew(t *testing.T) {
	x := holding(t, abbac()...)
	y := x.Fork()
	one, other, of := x.Rows(api.Span{}), x.Rows(api.Span{}), y.Rows(api.Span{})
	if unsafe.StringData(one[0].Key) == unsafe.StringData(other[0].Key) || unsafe.StringData(one[0].Val) == unsafe.StringData(of[0].Val) {
		t.Error("shared")
	}
	part := x.Rows(api.Span{From: "b", To: "c"})
	for _, l := range [][]api.Row{one, part} {
		room := l[:cap(l)]
		for i := range room {
			room[i] = row("changed", "", 99)
		}
	}
	if !slices.Equal(other, abbac()) || !slices.Equal(of, abbac()) {
		t.Error(other, of)
	}
	holds(t, x, abbac()...)
	holds(t, y, abbac()...)
}
