package table_test

import (
	"testing"

	"skylark/api"
	"skylark/table"
)

// The chapter's example, and the whole document's fourth and fifth.
func TestExample(t *testing.T) {
	x := table.New()
	does(t, x, add("k", "v", 5), fine(5, ""))
	does(t, x, add("k", "w", 6), failed(api.ErrExists, 5))
	does(t, x, set("k", "w", 5, 0), failed(api.ErrStamp, 5))
	does(t, x, set("k", "w", 6, 5), fine(6, ""))
	refuses(t, x, []api.Op{set("k", "x", 9, 0), get("j", 0)}, 1, api.ErrMissing)
	does(t, x, get("k", 0), fine(6, "w"))
}

// Promise 9.1: a new table has no rows, and no two are one.
func TestNew(t *testing.T) {
	x, y := table.New(), table.New()
	holds(t, x)
	does(t, x, add("k", "v", 1), fine(1, ""))
	holds(t, y)
	holds(t, table.New())
}

// Promise 9.1: OAdd puts a row in where none is, of whatever edge.
func TestAdd(t *testing.T) {
	x := table.New()
	does(t, x, add("k", "", 1), fine(1, ""))
	does(t, x, add(long(64), long(4096), 1<<40), fine(1<<40, ""))
	does(t, x, add("\x00", "v", 7), fine(7, ""))
	holds(t, x, row("\x00", "v", 7), row("k", "", 1), row(long(64), long(4096), 1<<40))
	does(t, x, add("k", "w", 2), failed(api.ErrExists, 1))
	does(t, x, add("k", "", 1), failed(api.ErrExists, 1))
	does(t, x, add("k", long(4097), 2), failed(api.ErrExists, 1))
	does(t, x, add("j", long(4097), 2), failed(api.ErrBig, 0))
	does(t, x, add("j", long(8192), 2), failed(api.ErrBig, 0))
	holds(t, x, row("\x00", "v", 7), row("k", "", 1), row(long(64), long(4096), 1<<40))
}

// Promise 9.1: OReplace asks for the stamp that is there, then for one above it, then for a value that is not too big.
func TestReplace(t *testing.T) {
	x := holding(t, row("k", "v", 5))
	does(t, x, replace("j", "w", 6, 0), failed(api.ErrMissing, 0))
	does(t, x, replace("j", long(4097), 6, 5), failed(api.ErrMissing, 0))
	for _, o := range []api.Op{
		replace("k", "w", 6, 4), replace("k", "w", 6, 6), replace("k", "w", 5, 0), replace("k", "w", 5, 5),
		replace("k", "w", 4, 0), replace("k", "w", 4, 4), replace("k", "w", 1, 5), replace("k", "v", 5, 0),
		replace("k", long(4097), 6, 6), replace("k", long(4097), 5, 5), replace("k", long(8192), 5, 0), replace("k", "w", 1<<40, 1<<40),
	} {
		does(t, x, o, failed(api.ErrStamp, 5))
	}
	does(t, x, replace("k", long(4097), 6, 5), failed(api.ErrBig, 0))
	does(t, x, replace("k", long(8192), 6, 0), failed(api.ErrBig, 0))
	holds(t, x, row("k", "v", 5))
	does(t, x, replace("k", "w", 6, 5), fine(6, ""))
	does(t, x, replace("k", "w", 8, 0), fine(8, ""))
	holds(t, x, row("k", "w", 8))
	does(t, x, replace("k", long(4096), 1<<40, 8), fine(1<<40, ""))
	does(t, x, replace("k", "", 1<<40, 0), failed(api.ErrStamp, 1<<40))
	holds(t, x, row("k", long(4096), 1<<40))
}

// Promise 9.1: OSet is OReplace where a row is.
func TestSetWhereOneIs(t *testing.T) {
	x := holding(t, row("k", "v", 5))
	for _, o := range []api.Op{
		set("k", "w", 6, 4), set("k", "w", 6, 6), set("k", "w", 5, 0), set("k", "w", 5, 5),
		set("k", "w", 4, 0), set("k", "w", 1, 5), set("k", long(4097), 6, 6), set("k", long(4097), 5, 0),
	} {
		does(t, x, o, failed(api.ErrStamp, 5))
	}
	does(t, x, set("k", long(4097), 6, 5), failed(api.ErrBig, 0))
	holds(t, x, row("k", "v", 5))
	does(t, x, set("k", "w", 6, 5), fine(6, ""))
	does(t, x, set("k", "", 7, 0), fine(7, ""))
	holds(t, x, row("k", "", 7))
}

// Promise 9.1: OSet is OAdd where none is, unless it asks for a stamp.
func TestSetWhereNoneIs(t *testing.T) {
	x := holding(t, row("k", "v", 5))
	does(t, x, set("j", "w", 6, 5), failed(api.ErrMissing, 0))
	does(t, x, set("j", "w", 6, 6), failed(api.ErrMissing, 0))
	does(t, x, set("j", long(4097), 6, 1), failed(api.ErrMissing, 0))
	does(t, x, set("j", long(4097), 6, 0), failed(api.ErrBig, 0))
	holds(t, x, row("k", "v", 5))
	does(t, x, set("j", long(4096), 1, 0), fine(1, ""))
	holds(t, x, row("j", long(4096), 1), row("k", "v", 5))
}

// Promise 9.1: ODelete takes a row away, and tells its stamp and no value.
func TestDelete(t *testing.T) {
	x := holding(t, row("j", "u", 4), row("k", "v", 5), row("l", "w", 6))
	does(t, x, remove("i", 0), failed(api.ErrMissing, 0))
	does(t, x, remove("kk", 5), failed(api.ErrMissing, 0))
	does(t, x, remove("k", 4), failed(api.ErrStamp, 5))
	does(t, x, remove("k", 6), failed(api.ErrStamp, 5))
	holds(t, x, row("j", "u", 4), row("k", "v", 5), row("l", "w", 6))
	does(t, x, remove("k", 5), fine(5, ""))
	does(t, x, remove("k", 0), failed(api.ErrMissing, 0))
	does(t, x, remove("l", 0), fine(6, ""))
	does(t, x, remove("j", 0), fine(4, ""))
	holds(t, x)
	does(t, x, remove("j", 0), failed(api.ErrMissing, 0))
}

// Promise 9.1: OGet tells a row's stamp and value, of a stamp that is asked for.
func TestGet(t *testing.T) {
	x := holding(t, row("j", "", 4), row("k", long(4096), 1<<40))
	does(t, x, get("i", 0), failed(api.ErrMissing, 0))
	does(t, x, get("jj", 4), failed(api.ErrMissing, 0))
	does(t, x, get("j", 3), failed(api.ErrStamp, 4))
	does(t, x, get("j", 5), failed(api.ErrStamp, 4))
	does(t, x, get("j", 0), fine(4, ""))
	does(t, x, get("j", 4), fine(4, ""))
	does(t, x, get("k", 0), fine(1<<40, long(4096)))
	does(t, x, get("k", 1<<40), fine(1<<40, long(4096)))
	does(t, x, get("k", 1<<40-1), failed(api.ErrStamp, 1<<40))
}

// Promise 9.1: OMany tells the first rows from a key on; the key itself need not be there, nor be one.
func TestMany(t *testing.T) {
	a, b, c := row("a", "x", 1), row("b", "", 2), row("ba", "z", 3)
	x := holding(t, a, b, c)
	for _, y := range []struct {
		key  string
		most int
		want []api.Row
	}{
		{"", 100, []api.Row{a, b, c}}, {"", 3, []api.Row{a, b, c}}, {"", 2, []api.Row{a, b}}, {"", 1, []api.Row{a}},
		{"a", 1, []api.Row{a}}, {"a\x00", 1, []api.Row{b}}, {"b", 5, []api.Row{b, c}}, {"b\x00", 5, []api.Row{c}},
		{"ba", 2, []api.Row{c}}, {"ba\x00", 2, nil}, {long(64), 100, nil}, {"\x00", 1, []api.Row{a}}, {"\xff", 1, nil},
	} {
		does(t, x, many(y.key, y.most), api.Result{Rows: y.want})
	}
	does(t, table.New(), many("", 100), api.Result{})
}

// Promise 9.1: OMany of as many rows as it may ask for, and of all but a few of a full table.
func TestManyOfFull(t *testing.T) {
	rows := numbered(4096)
	x := holding(t, rows...)
	does(t, x, many("", 100), api.Result{Rows: rows[:100]})
	does(t, x, many("1000", 100), api.Result{Rows: rows[1000:1100]})
	does(t, x, many("3995x", 100), api.Result{Rows: rows[3996:]})
	does(t, x, many("3996x", 100), api.Result{Rows: rows[3997:]})
	does(t, x, many("4095", 100), api.Result{Rows: rows[4095:]})
}

// Promise 9.1: a table with api.MaxItems rows takes no other key, till one is taken away; what is there can be written still.
func TestFull(t *testing.T) {
	rows := numbered(4095)
	x := holding(t, rows...)
	does(t, x, add("last", "v", 1), fine(1, ""))
	if x.Len() != 4096 {
		t.Fatal(x.Len())
	}
	does(t, x, add("more", "v", 1), failed(api.ErrSpace, 0))
	does(t, x, set("more", "v", 1, 0), failed(api.ErrSpace, 0))
	does(t, x, add("more", long(4097), 1), failed(api.ErrBig, 0))
	does(t, x, set("more", long(4097), 1, 0), failed(api.ErrBig, 0))
	does(t, x, set("more", "v", 1, 1), failed(api.ErrMissing, 0))
	does(t, x, replace("more", "v", 1, 0), failed(api.ErrMissing, 0))
	does(t, x, add("last", "v", 2), failed(api.ErrExists, 1))
	holds(t, x, append(rows, row("last", "v", 1))...)
	does(t, x, set("last", "w", 2, 0), fine(2, ""))
	does(t, x, replace("last", "u", 3, 2), fine(3, ""))
	refuses(t, x, []api.Op{remove("0000", 0), add("more", "v", 1), set("most", "v", 1, 0)}, 2, api.ErrSpace)
	doesAll(t, x, []api.Op{remove("0000", 0), add("more", "v", 1)}, fine(1, ""), fine(1, ""))
	does(t, x, remove("0001", 0), fine(2, ""))
	does(t, x, set("most", "v", 1, 0), fine(1, ""))
	does(t, x, set("4000x", "v", 1, 0), failed(api.ErrSpace, 0))
}

// Promise 9.1: each kind with each edge of what it has, where a row is and where none is, in a table that is full and in one that is not.
func TestEachAlone(t *testing.T) {
	seen := map[api.Errno]int{}
	for _, size := range []int{3, 4095} {
		x := holding(t, append(numbered(size), row("k", "v", 5))...)
		for _, o := range edgeOps() {
			m := model{}
			for _, r := range x.Rows(api.Span{}) {
				m[r.Key] = r
			}
			y := x.Fork()
			want := m.alone(o)
			seen[want.Code]++
			does(t, y, o, want)
			holds(t, y, m.rows(api.Span{})...)
		}
	}
	for _, code := range []api.Errno{api.OK, api.ErrExists, api.ErrMissing, api.ErrStamp, api.ErrBig, api.ErrSpace} {
		if seen[code] == 0 {
			t.Error(code)
		}
	}
}

// edgeOps are operations on a key that is there, with the stamp 5, and on one that is not.
func edgeOps() []api.Op {
	var ops []api.Op
	for _, key := range []string{"k", "j"} {
		for _, test := range []int{0, 4, 5, 6, 1 << 40} {
			ops = append(ops, remove(key, test), get(key, test))
			for _, stamp := range []int{1, 4, 5, 6, 1 << 40} {
				for _, size := range []int{0, 4096, 4097, 8192} {
					ops = append(ops, replace(key, long(size), stamp, test), set(key, long(size), stamp, test))
					if test == 0 {
						ops = append(ops, add(key, long(size), stamp))
					}
				}
			}
		}
	}
	return ops
}
