package brick_test

import (
	"slices"
	"strings"
	"testing"
	"unsafe"

	"skylark/api"
	"skylark/table"
)

// Example 1: what was synced is there behind a crash that keeps nothing, and no more.
func TestExample(t *testing.T) {
	x := newNode(t, 5000, 200)
	b := x.brick(0)
	done(t, b, add("k", "v", 1))
	must(t, x.d.Sync())
	done(t, b, add("j", "w", 1))
	x.crash(-1)
	hasRows(t, x.brick(0), row("k", "v", 1))
}

// Promise 13.2: a request that may not be is ErrBad, and leaves no record.
func TestDoBad(t *testing.T) {
	x := newNode(t, 5000, 200)
	b := x.brick(1)
	ok := []api.Op{add("k", "v", 1)}
	for _, r := range []api.Request{
		{}, asked(), {Client: -1, Seq: 1, Ops: ok}, {Client: 1001, Seq: 1, Ops: ok}, {Client: 1, Seq: 0, Ops: ok}, {Client: 1, Seq: api.MaxIndex + 1, Ops: ok},
		asked(slices.Repeat(ok, api.MaxOps+1)...), asked(add("", "v", 1)), asked(add("k", "v", 0)), asked(ok[0], api.Op{Kind: 7, Key: "k"}),
		asked(add("k", big("v", 2*api.MaxVal+1), 1)), asked(get("")), asked(many("", 0)),
	} {
		notDone(t, b, r, api.ErrBad)
	}
	if x.w.Next() != 1 || x.d.Used() != 0 {
		t.Error(x.w.Next(), x.d.Used())
	}
}

// Promise 13.2: a reply is of the request's client and number, at their edges too.
func TestDoReply(t *testing.T) {
	x := newNode(t, 5000, 200)
	b := x.brick(1)
	for _, r := range []api.Request{{Client: 0, Seq: 1}, {Client: 1000, Seq: api.MaxIndex}} {
		r.Ops = []api.Op{set("k", "v", r.Seq)}
		p, e := b.Do(r)
		if e != api.OK || p.Client != r.Client || p.Seq != r.Seq || len(p.Results) != 1 || p.Results[0].Stamp != r.Seq || p.Fault != (api.Fault{}) {
			t.Error(p, e)
		}
	}
	r := api.Request{Client: 8, Seq: 7, Ops: []api.Op{set("j", "v", 1), get("i")}}
	if p, e := b.Do(r); e != api.OK || p.Client != 8 || p.Seq != 7 || len(p.Results) != 0 || p.Fault != (api.Fault{At: 1, Code: api.ErrMissing}) {
		t.Error(p, e)
	}
}

// Promise 13.2: each request tells, and does, what the table's Do does, and has a record if it writes and all of it is OK, else none.
func TestDoAsTable(t *testing.T) {
	for _, c := range []struct {
		ops    []api.Op
		writes bool
	}{
		{[]api.Op{add("j", "v", 1)}, true},
		{[]api.Op{add("k", "v", 9)}, false},
		{[]api.Op{add("j", big("v", api.MaxVal), 1)}, true},
		{[]api.Op{add("j", big("v", api.MaxVal+1), 1)}, false},
		{[]api.Op{replace("k", "v", 6)}, true},
		{[]api.Op{replace("k", "v", 5)}, false},
		{[]api.Op{replace("j", "v", 6)}, false},
		{[]api.Op{set("j", "v", 6)}, true},
		{[]api.Op{set("k", "v", 6)}, true},
		{[]api.Op{set("k", "v", 4)}, false},
		{[]api.Op{{Kind: api.OSet, Key: "k", Stamp: 9, Test: 4}}, false},
		{[]api.Op{{Kind: api.OSet, Key: "k", Stamp: 9, Test: 5}}, true},
		{[]api.Op{remove("k")}, true},
		{[]api.Op{remove("j")}, false},
		{[]api.Op{get("k")}, false},
		{[]api.Op{get("j")}, false},
		{[]api.Op{many("", 9)}, false},
		{[]api.Op{get("k"), many("", 9)}, false},
		{[]api.Op{get("k"), get("j")}, false},
		{[]api.Op{get("k"), remove("k")}, true},
		{[]api.Op{set("k", "v", 9), get("k"), many("", 9)}, true},
		{[]api.Op{set("k", "v", 9), get("j")}, false},
		{[]api.Op{set("k", "v", 9), remove("k"), add("k", "old", 5)}, true},
		{[]api.Op{get("j"), set("k", "v", 9)}, false},
	} {
		x := newNode(t, 50000, 200)
		b := x.brick(1)
		alone := table.New()
		begin := []api.Op{add("k", "old", 5)}
		done(t, b, begin...)
		alone.Do(begin)
		results, fault := alone.Do(c.ops)
		p, e := b.Do(asked(c.ops...))
		if e != api.OK || p.Client != 4 || p.Seq != 9 || p.Fault != fault || !slices.EqualFunc(p.Results, results, sameResult) {
			t.Error(c.ops, p, e, results, fault)
		}
		want := []api.Record{{Seq: 1, Brick: 1, Body: record(asked(begin...))}}
		if c.writes {
			want = append(want, api.Record{Seq: 2, Brick: 1, Body: record(asked(c.ops...))})
		}
		if l := x.records(); !slices.Equal(l, want) {
			t.Error(c.ops, l)
		}
		hasRows(t, b, alone.Rows(api.Span{})...)
		holds(t, b, 1+len(want))
		hasRows(t, x.brick(1), alone.Rows(api.Span{})...)
	}
}

func sameResult(a, b api.Result) bool {
	return a.Code == b.Code && a.Stamp == b.Stamp && a.Val == b.Val && slices.Equal(a.Rows, b.Rows)
}

// full is as many writes as have a record of so many bytes.
func full(t *testing.T, long int) api.Request {
	t.Helper()
	r := asked()
	for i := range 15 {
		r.Ops = append(r.Ops, set(string(rune('a'+i)), big("v", api.MaxVal-200), 1))
	}
	for i := range r.Ops {
		lack := long - len(record(r))
		r.Ops[i].Val += big("w", max(0, min(lack, 200)))
	}
	if len(record(r)) != long {
		t.Fatal(len(record(r)), long)
	}
	return r
}

// Promise 13.2: what the log refuses of a record is told, and nothing changes: one of more than 60000 bytes.
func TestDoLong(t *testing.T) {
	x := newNode(t, api.MaxBytes, 200)
	b := x.brick(1)
	done(t, b, add("a", "old", 1), remove("a"), add("z", "v", 1))
	notDone(t, b, full(t, 60001), api.ErrLong)
	if x.w.Next() != 2 {
		t.Error(x.w.Next())
	}
	if p, e := b.Do(full(t, 60000)); e != api.OK || len(p.Results) != 15 {
		t.Error(p.Fault, e)
	}
	holds(t, b, 3)
	if l := b.Rows(api.Span{}); len(l) != 16 {
		t.Error(len(l))
	}
}

// Promise 13.2: a long request of which no record is made is not refused, for reading alone or a fault.
func TestDoLongWithoutRecord(t *testing.T) {
	x := newNode(t, api.MaxBytes, 200)
	b := x.brick(1)
	r := full(t, 60001)
	r.Ops = append(r.Ops, get("none"))
	if p, e := b.Do(r); e != api.OK || p.Fault != (api.Fault{At: 15, Code: api.ErrMissing}) {
		t.Error(p.Fault, e)
	}
	var long []api.Op
	for range api.MaxOps {
		long = append(long, set("k", big("v", 2*api.MaxVal), 1))
	}
	if p, e := b.Do(asked(long...)); e != api.OK || p.Fault != (api.Fault{At: 0, Code: api.ErrBig}) {
		t.Error(p.Fault, e)
	}
	view{held: 1}.is(t, b)
}

// Promise 13.2: a full disk refuses a record, and nothing changes; reading goes on, and writing once there is room.
func TestDoSpace(t *testing.T) {
	x := newNode(t, 150, 1000)
	b := x.brick(1)
	done(t, b, add("k", "v", 1))
	x.laid("other", big("z", 40))
	notDone(t, b, asked(set("k", big("v", 60), 2), set("j", "v", 1)), api.ErrSpace)
	if r := done(t, b, get("k")); r[0].Val != "v" || r[0].Stamp != 1 {
		t.Error(r)
	}
	must(t, x.d.Remove("other"))
	done(t, b, set("k", big("v", 60), 2))
	hasRows(t, x.brick(1), row("k", big("v", 60), 2))
}

// Promise 13.2: a disk that is down refuses a record, and nothing changes; a place is kept too.
func TestDoDown(t *testing.T) {
	x := newNode(t, 5000, 200)
	b := x.brick(1)
	done(t, b, add("k", big("v", 64), 1))
	must(t, b.Save())
	must(t, x.d.Fuse(0))
	notDone(t, b, asked(set("k", "w", 2)), api.ErrDown)
	isLive(t, b, at(1, 0, 64))
}

// Promise 13.2: nothing is synced by a request.
func TestDoSyncsNothing(t *testing.T) {
	x := newNode(t, 5000, 1000)
	b := x.brick(1)
	must(t, x.d.Fuse(3))
	done(t, b, add("k", "v", 1))
	done(t, b, get("k"))
	done(t, b, add("j", "v", 1), add("i", "v", 1))
	done(t, b, remove("j"))
	x.crash(-1)
	view{held: 1}.is(t, x.brick(1))
}

// Promise 13.2: Held is the log's Next as it was behind Open, or the last request that wrote: others' records come to it then.
func TestHeld(t *testing.T) {
	x := newNode(t, 5000, 100)
	x.appended(2, "other")
	b := x.brick(1)
	holds(t, b, 2)
	x.appended(2, "other")
	holds(t, b, 2)
	done(t, b, many("", 1))
	holds(t, b, 2)
	done(t, b, add("k", "v", 1))
	holds(t, b, 4)
	x.appended(2, "other")
	if p, e := b.Do(asked(add("k", "v", 1))); e != api.OK || p.Results[0].Code != api.ErrExists {
		t.Error(p, e)
	}
	notDone(t, b, asked(), api.ErrBad)
	holds(t, b, 4)
	c := x.brick(1)
	holds(t, c, 5)
	done(t, c, remove("k"))
	holds(t, c, 6)
	holds(t, b, 4)
}

// Promise 13.2: Rows are the table's, of any span.
func TestRows(t *testing.T) {
	x := newNode(t, 5000, 100)
	b := x.brick(1)
	alone := table.New()
	for _, key := range []string{"b", "a", "c", "ab"} {
		done(t, b, add(key, "v"+key, 1))
		alone.Do([]api.Op{add(key, "v"+key, 1)})
	}
	for _, s := range []api.Span{{}, {From: "ab"}, {To: "b"}, {From: "a", To: "b"}, {From: "c", To: "a"}, {From: "b", To: "b"}, {From: big("z", 100)}} {
		if l := b.Rows(s); !slices.Equal(l, alone.Rows(s)) {
			t.Error(s, l)
		}
	}
}

// Rule R4: what is handed in stays as it is, and is not kept; answers are new memory.
func TestMemory(t *testing.T) {
	x := newNode(t, 5000, 100)
	b := x.brick(1)
	bytes := []byte("key and " + big("v", 80))
	key, val := unsafe.String(&bytes[0], 3), unsafe.String(&bytes[8], 80)
	room := []api.Op{set(key, val, 1), get(key), add("spare", "", 7)}
	ops := room[:2]
	r := api.Request{Client: 1, Seq: 1, Ops: ops}
	p, e := b.Do(r)
	must(t, e)
	if ops[0] != set("key", big("v", 80), 1) || ops[1] != get("key") || room[2] != add("spare", "", 7) {
		t.Error(room)
	}
	want := row("key", big("v", 80), 1)
	for i := range bytes {
		bytes[i] = '#'
	}
	ops[0], ops[1] = api.Op{}, api.Op{}
	if p.Results[1].Val != want.Val {
		t.Error(p)
	}
	must(t, b.Save())
	for range 2 {
		l, live := b.Rows(api.Span{}), b.Live()
		if !slices.Equal(l, []api.Row{want}) || !slices.Equal(live, []api.Place{at(1, 0, 80)}) {
			t.Error(l, live)
		}
		_, _ = append(l, row("z", "", 1)), append(live, at(9, 9, 9))
		l[0], live[0] = api.Row{}, at(7, 7, 7)
		p, e := b.Do(asked(many("", 9)))
		must(t, e)
		p.Results[0].Rows[0] = api.Row{}
	}
	hasRows(t, x.brick(1), want)
	if strings.Contains(x.file("log.1"), "#") {
		t.Error(x.file("log.1"))
	}
}
