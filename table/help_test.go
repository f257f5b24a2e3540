package table_test

import (
	"fmt"
	"math"
	"math/rand"
	"slices"
	"strings"
	"testing"

	"skylark/api"
	"skylark/table"
)

func add(key, val string, stamp int) api.Op {
	return api.Op{Kind: api.OAdd, Key: key, Val: val, Stamp: stamp}
}

func replace(key, val string, stamp, test int) api.Op {
	return api.Op{Kind: api.OReplace, Key: key, Val: val, Stamp: stamp, Test: test}
}

func set(key, val string, stamp, test int) api.Op {
	return api.Op{Kind: api.OSet, Key: key, Val: val, Stamp: stamp, Test: test}
}

func remove(key string, test int) api.Op {
	return api.Op{Kind: api.ODelete, Key: key, Test: test}
}

func get(key string, test int) api.Op {
	return api.Op{Kind: api.OGet, Key: key, Test: test}
}

func many(key string, most int) api.Op {
	return api.Op{Kind: api.OMany, Key: key, Most: most}
}

func row(key, val string, stamp int) api.Row {
	return api.Row{Key: key, Stamp: stamp, Val: val}
}

// fine is the result of what is OK, failed of what is not.
func fine(stamp int, val string) api.Result {
	return api.Result{Stamp: stamp, Val: val}
}

func failed(code api.Errno, stamp int) api.Result {
	return api.Result{Code: code, Stamp: stamp}
}

// long is a text of so many bytes.
func long(size int) string {
	return strings.Repeat("v", size)
}

// numbered are so many rows, their keys 0000, 0001 and so on.
func numbered(size int) []api.Row {
	var rows []api.Row
	for i := range size {
		rows = append(rows, row(fmt.Sprintf("%04d", i), "v", i+1))
	}
	return rows
}

// holding is a table with these rows.
func holding(t *testing.T, rows ...api.Row) *table.Table {
	t.Helper()
	x := table.New()
	if e := x.Take(rows); e != api.OK {
		t.Fatal(e)
	}
	return x
}

// holds fails if a table has not just these rows, be it asked in whatever way.
func holds(t *testing.T, x *table.Table, rows ...api.Row) {
	t.Helper()
	if l := x.Rows(api.Span{}); !slices.Equal(l, rows) {
		t.Fatalf("has %.200v, not %.200v", l, rows)
	}
	if x.Len() != len(rows) {
		t.Fatal(x.Len(), len(rows))
	}
}

// does fails if an operation alone does not come to a result.
func does(t *testing.T, x *table.Table, o api.Op, want api.Result) {
	t.Helper()
	l, f := x.Do([]api.Op{o})
	if f != (api.Fault{}) || len(l) != 1 || !sameResult(l[0], want) {
		t.Fatalf("%+.80v: %+.80v %v, not %+.80v", o, l, f, want)
	}
}

// doesAll fails if operations do not come to results.
func doesAll(t *testing.T, x *table.Table, ops []api.Op, want ...api.Result) {
	t.Helper()
	l, f := x.Do(ops)
	if f != (api.Fault{}) || !slices.EqualFunc(l, want, sameResult) {
		t.Fatalf("%+.80v: %+.80v %v, not %+.80v", ops, l, f, want)
	}
}

// refuses fails if operations are not refused so, or change something.
func refuses(t *testing.T, x *table.Table, ops []api.Op, at int, code api.Errno) {
	t.Helper()
	was := x.Rows(api.Span{})
	if l, f := x.Do(ops); len(l) != 0 || f != (api.Fault{At: at, Code: code}) {
		t.Fatalf("%+.80v: %+.80v %v, not %v %v", ops, l, f, at, code)
	}
	holds(t, x, was...)
}

func sameResult(a, b api.Result) bool {
	return a.Code == b.Code && a.Stamp == b.Stamp && a.Val == b.Val && slices.Equal(a.Rows, b.Rows)
}

// badOps are operations that may not be.
func badOps() []api.Op {
	return []api.Op{
		{}, {Kind: 7, Key: "k"}, {Kind: -1, Key: "k"}, {Kind: math.MaxInt, Key: "k"}, {Kind: 257, Key: "k", Stamp: 1},
		add("", "", 1), add(long(65), "", 1), add("k", "", 0), add("k", "", -1), add("k", "", 1<<40+1), add("k", long(8193), 1),
		{Kind: api.OAdd, Key: "k", Stamp: 2, Test: 1}, {Kind: api.OAdd, Key: "k", Stamp: 2, Most: 1},
		replace("", "", 1, 0), replace("k", "", 0, 0), replace("k", "", 6, -1), replace("k", "", 6, 1<<40+1), replace("k", long(8193), 6, 0),
		set("", "", 1, 0), set("k", "", 0, 0), set("k", "", 6, -1), set("k", "", 6, 1<<40+1), set("k", long(8193), 6, 0),
		remove("", 0), remove(long(65), 0), remove("k", -1), {Kind: api.ODelete, Key: "k", Stamp: 1}, {Kind: api.ODelete, Key: "k", Val: "v"},
		get("", 0), get(long(65), 0), get("k", -1), get("k", 1<<40+1), {Kind: api.OGet, Key: "k", Most: 1}, {Kind: api.OGet, Key: "k", Val: "v"},
		many("", 0), many("", -1), many("", 101), many(long(65), 1), {Kind: api.OMany, Most: 1, Test: 1}, {Kind: api.OMany, Most: 1, Stamp: 1},
	}
}

// model is the chapter's table, told once more: a row by its key, and no order.
type model map[string]api.Row

func (m model) keys() []string {
	var keys []string
	for key := range m {
		keys = append(keys, key)
	}
	slices.Sort(keys)
	return keys
}

func (m model) rows(s api.Span) []api.Row {
	var rows []api.Row
	for _, key := range m.keys() {
		if !(key < s.From) && (s.To == "" || s.To > key) {
			rows = append(rows, m[key])
		}
	}
	return rows
}

// alone goes down the chapter's list, for each kind by itself.
func (m model) alone(o api.Op) api.Result {
	was, there := m[o.Key]
	tested := o.Test == 0 || o.Test == was.Stamp
	put := api.Row{Key: o.Key, Stamp: o.Stamp, Val: o.Val}
	switch {
	case o.Kind == api.OMany:
		rows := m.rows(api.Span{From: o.Key})
		return api.Result{Rows: rows[:min(o.Most, len(rows))]}
	case o.Kind == api.OAdd && there:
		return failed(api.ErrExists, was.Stamp)
	case o.Kind == api.OAdd || o.Kind == api.OSet && !there && o.Test == 0:
		if len(o.Val) > 4096 {
			return failed(api.ErrBig, 0)
		}
		if len(m) == 4096 {
			return failed(api.ErrSpace, 0)
		}
		m[o.Key] = put
		return fine(o.Stamp, "")
	case !there:
		return failed(api.ErrMissing, 0)
	case !tested:
		return failed(api.ErrStamp, was.Stamp)
	case o.Kind == api.OGet:
		return fine(was.Stamp, was.Val)
	case o.Kind == api.ODelete:
		delete(m, o.Key)
		return fine(was.Stamp, "")
	case o.Stamp <= was.Stamp:
		return failed(api.ErrStamp, was.Stamp)
	case len(o.Val) > 4096:
		return failed(api.ErrBig, 0)
	}
	m[o.Key] = put
	return fine(o.Stamp, "")
}

// do does operations that may be; of more than one that are not all OK the rows are put back one by one.
func (m model) do(ops []api.Op) ([]api.Result, api.Fault) {
	was := m.rows(api.Span{})
	var results []api.Result
	for i, o := range ops {
		r := m.alone(o)
		if r.Code != api.OK && len(ops) > 1 {
			clear(m)
			for _, r := range was {
				m[r.Key] = r
			}
			return nil, api.Fault{At: i, Code: r.Code}
		}
		results = append(results, r)
	}
	return results, api.Fault{}
}

// drawnKey is one of few, of which some are beginnings of others.
func drawnKey(r *rand.Rand) string {
	return []string{"a", "aa", "ab", "b", "b\x00", "b\xff", "c", "\x00", "\xff", "k", "kk", long(64)}[r.Intn(12)]
}

// drawnOp is an operation that may be; what it asks for is there often, and often not.
func drawnOp(r *rand.Rand) api.Op {
	key, test := drawnKey(r), 0
	if r.Intn(3) == 0 {
		test = 1 + r.Intn(12)
	}
	val := long(r.Intn(3))
	if r.Intn(12) == 0 {
		val = long([]int{4096, 4097, 8192}[r.Intn(3)])
	}
	switch r.Intn(6) {
	case 0:
		return add(key, val, 1+r.Intn(12))
	case 1:
		return replace(key, val, 1+r.Intn(12), test)
	case 2:
		return set(key, val, 1+r.Intn(12), test)
	case 3:
		return remove(key, test)
	case 4:
		return get(key, test)
	}
	if r.Intn(4) == 0 {
		key = ""
	}
	return many(key, []int{1, 2, 5, 100}[r.Intn(4)])
}

func drawnOps(r *rand.Rand) []api.Op {
	var ops []api.Op
	for range 1 + r.Intn(1+r.Intn(6)) {
		ops = append(ops, drawnOp(r))
	}
	return ops
}

// drawnSpan is any: with an end or without, the end above the beginning or not.
func drawnSpan(r *rand.Rand) api.Span {
	ends := []string{"", drawnKey(r), drawnKey(r), "aaa", long(65)}
	return api.Span{From: ends[r.Intn(len(ends))], To: ends[r.Intn(len(ends))]}
}

// drawnRows are some that rise.
func drawnRows(r *rand.Rand) []api.Row {
	m := model{}
	for range r.Intn(5) {
		key := drawnKey(r)
		m[key] = row(key, long(r.Intn(3)), 1+r.Intn(12))
	}
	return m.rows(api.Span{})
}
