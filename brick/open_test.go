package brick_test

import (
	"math"
	"strconv"
	"testing"

	"skylark/api"
	"skylark/brick"
	"skylark/disk"
	"skylark/vals"
	"skylark/wal"
)

// Promise 13.1: there is no brick without a disk, a log or values; that is told first.
func TestOpenNil(t *testing.T) {
	x := newNode(t, 1000, 200)
	for _, n := range []int{0, 15, 16, -1} {
		for mask := range 7 {
			var d *disk.Disk
			var w *wal.Wal
			var v *vals.Vals
			if mask&1 != 0 {
				d = x.d
			}
			if mask&2 != 0 {
				w = x.w
			}
			if mask&4 != 0 {
				v = x.v
			}
			if b, e := brick.Open(n, d, w, v); b != nil || e != api.ErrNone {
				t.Error(n, mask, b, e)
			}
		}
	}
}

// Promise 13.1: a brick's number is from 0 to api.MaxNodes - 1.
func TestOpenNumber(t *testing.T) {
	x := newNode(t, 1000, 200)
	for _, n := range []int{-1, api.MaxNodes, math.MinInt, math.MaxInt} {
		x.refuses(n, api.ErrRange)
	}
	for n := range api.MaxNodes {
		view{held: 1}.is(t, x.brick(n))
	}
}

// Promise 13.1: a number that may not be is told ahead of what is wrong on the disk.
func TestOpenNumberFirst(t *testing.T) {
	x := newNode(t, 1000, 200)
	x.laid("state.16", "z")
	x.refuses(16, api.ErrRange)
}

// Promise 13.1: without a state file a brick begins without rows where the log does, and does its own records, all in order.
func TestOpenRecords(t *testing.T) {
	x := newNode(t, 5000, 100)
	x.appended(3, record(asked(add("k", "v", 1))))
	x.appended(2, record(asked(add("k", "other", 7))))
	x.appended(3, record(asked(set("k", "w", 2), add("j", "u", 1))))
	x.appended(4, "no request")
	x.appended(3, record(asked(remove("j"), add("i", big("i", 100), 5))))
	x.appended(2, record(asked(get("k"))))
	view{rows: []api.Row{row("i", big("i", 100), 5), row("k", "w", 2)}, held: 7}.is(t, x.brick(3))
	view{rows: []api.Row{row("k", "other", 7)}, held: 7}.is(t, x.brick(2))
	view{held: 7}.is(t, x.brick(0))
	x.refuses(4, api.ErrCorrupt)
}

// Promise 13.1: records that were forgotten are not asked for: a brick begins where the log does.
func TestOpenForgotten(t *testing.T) {
	x := newNode(t, 5000, 1)
	x.appended(0, "no request")
	x.appended(0, record(asked(add("k", "v", 1))))
	x.refuses(0, api.ErrCorrupt)
	_, e := x.w.Forget(2)
	must(t, e)
	view{rows: []api.Row{row("k", "v", 1)}, held: 3}.is(t, x.brick(0))
}

// Promise 13.1: a record is a request of any client and number, that may be and is all done.
func TestOpenRecordKinds(t *testing.T) {
	ok := []api.Op{add("k", "v", 5)}
	for _, r := range []api.Request{
		{Client: 0, Seq: 1, Ops: ok}, {Client: 1000, Seq: api.MaxIndex, Ops: ok},
		asked(set("k", "", 1), replace("k", "v", 5)), asked(add("k", "x", 5), remove("k"), add("k", "v", 5), get("k"), many("", 3)),
	} {
		x := newNode(t, 5000, 100)
		x.appended(1, record(r))
		b := x.brick(1)
		if l := b.Rows(api.Span{}); len(l) != 1 || l[0] != row("k", "v", 5) {
			t.Error(r, l)
		}
	}
	whole := record(asked(ok...))
	for i, body := range []string{
		"", "z", whole[:len(whole)-1], whole + "N\x00", record(asked()), record(api.Request{Client: 1001, Seq: 1, Ops: ok}),
		record(api.Request{Client: 1, Seq: 0, Ops: ok}), record(asked(add("", "v", 1))), record(asked(add("k", "v", 0))),
		list(4, 9, 2) + whole[len(list(4, 9, 1)):], list(1, 1, 0, 0, 1, "k", 1, "v"),
	} {
		x := newNode(t, 5000, 100)
		x.appended(1, body)
		if b, e := brick.Open(1, x.d, x.w, x.v); b != nil || e != api.ErrCorrupt {
			t.Error(i, b, e)
		}
	}
}

// Promise 13.1: a record whose operations are not all done is none, be it of one or of more.
func TestOpenRecordNotDone(t *testing.T) {
	for i, r := range []api.Request{
		asked(add("k", "v", 9)), asked(replace("j", "v", 1)), asked(set("k", "v", 5)), asked(set("k", "v", 4)), asked(remove("j")), asked(get("j")),
		asked(set("j", big("v", api.MaxVal+1), 1)), asked(api.Op{Kind: api.ODelete, Key: "k", Test: 4}),
		asked(set("k", "v", 6), get("j")), asked(get("j"), set("k", "v", 6)), asked(add("j", "v", 1), add("j", "v", 2)),
	} {
		x := newNode(t, 50000, 100)
		x.appended(1, record(asked(add("k", "v", 5))))
		x.appended(1, record(r))
		if b, e := brick.Open(1, x.d, x.w, x.v); b != nil || e != api.ErrCorrupt {
			t.Error(i, b, e)
		}
	}
}

// Promise 13.1: a log whose file somebody else has cut cannot be read.
func TestOpenLogGone(t *testing.T) {
	x := newNode(t, 5000, 100)
	x.appended(1, record(asked(add("k", "v", 5))))
	must(t, x.d.Cut("log.1", 3))
	x.refuses(1, api.ErrCorrupt)
}

// sample is a node with six records, of which the first two were forgotten, and values: of 64 bytes at {1 0 64}, of 63 at {1 72 63}, of api.MaxVal and of one more in files 2 and 3, and of 100 in file 4. The records are no requests.
func sample(t *testing.T) *node {
	t.Helper()
	x := newNode(t, api.MaxBytes, 100)
	for i := range 6 {
		x.appended(1, "none "+big("z", 90*(i%2)))
	}
	for _, n := range []int{64, 63, api.MaxVal, api.MaxVal + 1, 100} {
		_, e := x.v.Put(big("q", n))
		must(t, e)
	}
	_, e := x.w.Forget(3)
	must(t, e)
	if x.w.First() != 3 || x.w.Next() != 7 {
		t.Fatal(x.w.First(), x.w.Next())
	}
	return x
}

// Promise 13.1: a state file is one frame of a list: the number behind, how many rows, and the rows, of which a value is a text or a place.
func TestOpenState(t *testing.T) {
	for _, c := range []struct {
		file string
		rows []api.Row
		live []api.Place
	}{
		{file: state(7, 0)},
		{file: state(7, 1, "k", 1, ""), rows: []api.Row{row("k", "", 1)}},
		{file: state(7, 1, "k", api.MaxStamp, big("v", 63)), rows: []api.Row{row("k", big("v", 63), api.MaxStamp)}},
		{file: state(7, 1, big("k", api.MaxKey), 1, at(1, 0, 64)), rows: []api.Row{row(big("k", api.MaxKey), big("q", 64), 1)}, live: []api.Place{at(1, 0, 64)}},
		{file: state(7, 1, "k", 1, at(2, 0, api.MaxVal)), rows: []api.Row{row("k", big("q", api.MaxVal), 1)}, live: []api.Place{at(2, 0, api.MaxVal)}},
		{file: state(7, 3, "a", 1, at(4, 0, 100), "ab", 2, "v", "b", 3, at(1, 0, 64)),
			rows: []api.Row{row("a", big("q", 100), 1), row("ab", "v", 2), row("b", big("q", 64), 3)}, live: []api.Place{at(4, 0, 100), at(1, 0, 64)}},
		{file: state(7, 2, "a", 1, at(1, 0, 64), "b", 1, at(1, 0, 64)),
			rows: []api.Row{row("a", big("q", 64), 1), row("b", big("q", 64), 1)}, live: []api.Place{at(1, 0, 64), at(1, 0, 64)}},
	} {
		x := sample(t)
		x.laid("state.1", c.file)
		view{rows: c.rows, held: 7, live: c.live}.is(t, x.brick(1))
		view{held: 7}.is(t, x.brick(0))
	}
}

// Promise 13.1: any other file is corrupt.
func TestOpenCorruptState(t *testing.T) {
	whole := state(7, 1, "k", 1, "v")
	for i, file := range []string{
		"", "z", whole[:len(whole)-1], whole + "z", whole + whole, "z" + whole, whole[:6] + "\xff" + whole[7:],
		framed(""), framed("z"), framed(list(7, 1, "k", 1, "v") + "z"), framed(list(7, 1, "k", 1, "v")[:9]),
		state(7), state("7", 0), state(7, "0"), state(7, 1), state(7, 0, 0), state(7, 0, "k", 1, "v"), state(7, 2, "k", 1, "v"),
		state(7, -1), state(7, math.MaxInt), state(7, math.MinInt), state(7, -1, "k", 1, "v"), state(7, 1<<32+1, "k", 1, "v"), state(7, 1, "j", 1, "v", "k", 1, "v"),
		state(7, 1, 1, 1, "v"), state(7, 1, "k", "1", "v"), state(7, 1, "k", 1), state(7, 1, "k"), state(7, 1, "k", 1, 1), state(7, 1, "k", 1, 1, 0), state(7, 1, "k", 1, 1, 0, "64"),
		state(7, 1, "k", 1, 1, "0", 64), state(7, 1, "k", 1, at(1, 0, 64), 0), state(7, 1, "k", 1, "v", "w"), state(7, 1, "k", 1, "v", 1, 0, 64),
		state(7, 1, "", 1, "v"), state(7, 1, big("k", api.MaxKey+1), 1, "v"), state(7, 1, "k", 0, "v"), state(7, 1, "k", -1, "v"), state(7, 1, "k", api.MaxStamp+1, "v"),
		state(7, 2, "k", 1, "v", "k", 2, "v"), state(7, 2, "k", 1, "v", "j", 2, "v"),
		state(7, 1, "k", 1, big("v", 64)), state(7, 1, "k", 1, big("v", 200)), state(7, 1, "k", 1, at(1, 72, 63)), state(7, 1, "k", 1, at(3, 0, api.MaxVal+1)),
		state(7, 1, "k", 1, at(0, 0, 0)), state(7, 1, "k", 1, at(1, 0, 65)), state(7, 1, "k", 1, at(1, 0, 63)), state(7, 1, "k", 1, at(1, 1, 64)), state(7, 1, "k", 1, at(1, -1, 64)),
		state(7, 1, "k", 1, at(5, 0, 64)), state(7, 1, "k", 1, at(-1, 0, 64)), state(7, 1, "k", 1, at(math.MaxInt, math.MaxInt, math.MaxInt)), state(7, 1, "k", 1, at(math.MinInt, math.MinInt, math.MinInt)),
		state(7, 2, "a", 1, at(1, 0, 64), "b", 1, at(9, 0, 64)), state(2, 0), state(8, 0), state(0, 0), state(-7, 0), state(math.MaxInt, 0), state(math.MinInt, 0),
	} {
		x := sample(t)
		x.laid("state.1", file)
		was := len(contents(x.d))
		if b, e := brick.Open(1, x.d, x.w, x.v); b != nil || e != api.ErrCorrupt || len(contents(x.d)) != was {
			t.Error(i, b, e)
		}
		view{held: 7}.is(t, x.brick(0))
	}
}

// Promise 13.1: a state's number is from the log's First to its Next, and the records from there on are done, and none ahead of it.
func TestOpenStateNumber(t *testing.T) {
	for from := 1; from <= 6; from++ {
		x := newNode(t, 5000, 1)
		for stamp := 1; stamp <= 4; stamp++ {
			x.appended(1, record(asked(set("k"+strconv.Itoa(stamp), "v", stamp))))
		}
		_, e := x.w.Forget(2)
		must(t, e)
		x.laid("state.1", state(from, 1, "k", 7, "state"))
		if from < 2 || from > 5 {
			x.refuses(1, api.ErrCorrupt)
			continue
		}
		want := []api.Row{row("k", "state", 7)}
		for stamp := from; stamp <= 4; stamp++ {
			want = append(want, row("k"+strconv.Itoa(stamp), "v", stamp))
		}
		view{rows: want, held: 5}.is(t, x.brick(1))
	}
}

// Promise 13.1: records are done on the rows of the state, and are corrupt if they cannot be.
func TestOpenStateAndRecords(t *testing.T) {
	x := newNode(t, 5000, 100)
	x.laid("state.1", state(1, 1, "k", 7, "state"))
	x.appended(1, record(asked(replace("k", "v", 8))))
	hasRows(t, x.brick(1), row("k", "v", 8))
	x.appended(1, record(asked(add("k", "v", 9))))
	x.refuses(1, api.ErrCorrupt)
}

// Promise 13.1: the state file is the one of the brick's number, written as digits.
func TestOpenName(t *testing.T) {
	x := newNode(t, 5000, 100)
	for n := range api.MaxNodes {
		x.laid("state."+strconv.Itoa(n), state(1, 1, "k", 1+n, "v"))
	}
	for _, name := range []string{"state.new", "state.", "state", "state.01", "state.16"} {
		x.laid(name, "none")
	}
	for n := range api.MaxNodes {
		hasRows(t, x.brick(n), row("k", "v", 1+n))
	}
}

// Promise 13.3: behind each record that Open does a row that is not there any more has no place any more.
func TestOpenLetsPlacesGo(t *testing.T) {
	q, p := big("q", 64), at(1, 0, 64)
	for i, c := range []struct {
		requests []api.Request
		row      api.Row
		live     []api.Place
	}{
		{nil, row("k", q, 5), []api.Place{p}},
		{[]api.Request{asked(add("j", "v", 1), remove("j"))}, row("k", q, 5), []api.Place{p}},
		{[]api.Request{asked(remove("k"), add("k", q, 5))}, row("k", q, 5), []api.Place{p}},
		{[]api.Request{asked(replace("k", "v", 6), remove("k"), add("k", "v", 9), remove("k"), add("k", q, 5))}, row("k", q, 5), []api.Place{p}},
		{[]api.Request{asked(get("k"))}, row("k", q, 5), []api.Place{p}},
		{[]api.Request{asked(remove("k")), asked(add("k", q, 5))}, row("k", q, 5), nil},
		{[]api.Request{asked(replace("k", q, 6))}, row("k", q, 6), nil},
		{[]api.Request{asked(remove("k"), add("k", q, 4))}, row("k", q, 4), nil},
		{[]api.Request{asked(remove("k"), add("k", big("r", 64), 5))}, row("k", big("r", 64), 5), nil},
		{[]api.Request{asked(replace("k", "v", 6))}, row("k", "v", 6), nil},
	} {
		x := sample(t)
		x.laid("state.2", state(7, 1, "k", 5, p))
		for _, r := range c.requests {
			x.appended(2, record(r))
		}
		b := x.brick(2)
		if l := b.Rows(api.Span{}); len(l) != 1 || l[0] != c.row {
			t.Error(i, l)
		}
		isLive(t, b, c.live...)
	}
}
