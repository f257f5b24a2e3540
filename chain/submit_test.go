package chain_test

import (
	"slices"
	"testing"

	"skylark/api"
	"skylark/chain"
)

// bad are requests that may not be.
func bad() []api.Request {
	return []api.Request{
		{}, asked(1), asked(0, get("k")), asked(-1, get("k")), asked(api.MaxIndex+1, get("k")), {Client: -1, Seq: 1, Ops: []api.Op{get("k")}}, {Client: 1001, Seq: 1, Ops: []api.Op{get("k")}},
		asked(1, api.Op{}), asked(1, api.Op{Kind: 7, Key: "k"}), asked(1, get("")), asked(1, get(long(65))), asked(1, set("k", long(8193), 1)), asked(1, set("k", "v", 0)), asked(1, set("k", "v", 1<<40+1)), asked(1, many("", 0)), asked(1, many("", 101)),
		asked(1, get("k"), get("")), asked(1, slices.Repeat([]api.Op{get("k")}, 33)...),
	}
}

// Promise 19.2: a request that is submitted at the head is done there, numbered on, kept, and sent to the one behind; it is told by the tail alone.
func TestSubmit(t *testing.T) {
	m := head(t)
	l := []api.Request{
		asked(9, add("k", "v", 5)), asked(2, get("k")), asked(2, set("k", "w", 6), remove("j")), asked(1<<20, many("", 100), remove("k")), {Client: 1000, Seq: 1, Ops: []api.Op{add("j", "", 1<<40)}}, {Seq: 1, Ops: []api.Op{replace("j", "", 1, 0)}},
		asked(1, slices.Repeat([]api.Op{set("i", "v", 1)}, 32)...), asked(1, add("i", long(8192), 1)),
	}
	for i, r := range l {
		submits(t, m, r, 1+i)
		is(t, m, 1, 0, 0, 1+i)
		sends(t, m, to(6, down(1, 1+i, r)))
		tells(t, m)
	}
	holds(t, m, row("j", "", 1<<40))
	must(t, m.Config(2, []int{5}))
	tells(t, m,
		replied(9, api.Result{Stamp: 5}), replied(2, api.Result{Stamp: 5, Val: "v"}), failed(2, 1, api.ErrMissing), replied(1<<20, api.Result{Rows: []api.Row{row("k", "v", 5)}}, api.Result{Stamp: 5}),
		api.Reply{Client: 1000, Seq: 1, Results: []api.Result{{Stamp: 1 << 40}}}, api.Reply{Seq: 1, Results: []api.Result{{Code: api.ErrStamp, Stamp: 1 << 40}}}, failed(1, 1, api.ErrStamp), replied(1, api.Result{Code: api.ErrBig}))
}

// Promise 19.2: a head that is the tail, too, tells the reply at once, is sure, and sends nothing.
func TestSubmitAlone(t *testing.T) {
	m := alone(t)
	for n := 1; n <= 600; n++ {
		submits(t, m, setting(n), n)
		is(t, m, 1, 0, n, n)
		tells(t, m, settled(n))
	}
	sends(t, m)
	m.Tick()
	sends(t, m)
	holds(t, m, row("k", "600", 600))
	submits(t, m, asked(7, set("k", "", 700), add("k", "", 1)), 601)
	tells(t, m, failed(7, 1, api.ErrExists))
	holds(t, m, row("k", "600", 600))
}

// Promise 19.2: ErrRole, if it is not the head, whatever the request.
func TestSubmitNotAtHead(t *testing.T) {
	for _, m := range []*chain.Member{begun(t, 5), outside(t), middle(t), tail(t)} {
		a, b, c, d := m.State()
		for _, r := range append(bad(), setting(1), sized(t, 60001)) {
			notSubmits(t, m, r, api.ErrRole)
		}
		is(t, m, a, b, c, d)
		sends(t, m)
		tells(t, m)
		holds(t, m)
	}
}

// Promise 19.2: ErrBad, if the request may not be, ahead of all that is too long; it has no number.
func TestSubmitBad(t *testing.T) {
	m := head(t)
	for _, r := range bad() {
		notSubmits(t, m, r, api.ErrBad)
	}
	r := sized(t, 60001)
	r.Seq = 0
	notSubmits(t, m, r, api.ErrBad)
	r = asked(1, slices.Repeat([]api.Op{set("k", long(8192), 1)}, 32)...)
	notSubmits(t, m, r, api.ErrLong)
	r.Ops[31].Most = 1
	notSubmits(t, m, r, api.ErrBad)
	is(t, m, 1, 0, 0, 0)
	sends(t, m)
	fills(t, m, 1, 256)
	notSubmits(t, m, asked(1), api.ErrBad)
	is(t, m, 1, 0, 0, 256)
}

// Promise 19.2: 60000 bytes of a request may be, one more may not, even where nothing is sent.
func TestSubmitMostBytes(t *testing.T) {
	for _, m := range []*chain.Member{head(t), alone(t)} {
		for _, size := range []int{60001, 60002, 61000, 70000, 200000} {
			notSubmits(t, m, sized(t, size), api.ErrLong)
		}
		is(t, m, 1, 0, 0, 0)
		sends(t, m)
		tells(t, m)
		holds(t, m)
		submits(t, m, sized(t, 60000), 1)
		submits(t, m, sized(t, 59999), 2)
	}
	m := head(t)
	submits(t, m, sized(t, 60000), 1)
	sends(t, m, to(6, down(1, 1, sized(t, 60000))))
	l := placed(t, 6, 5)
	hears(t, l, 6, down(1, 1, sized(t, 60000)))
	is(t, l, 1, 1, 1, 1)
}

// Promise 19.2: 256 requests may be under way, one more may not, till the one behind is sure of some.
func TestSubmitMostUnderWay(t *testing.T) {
	m := head(t)
	fills(t, m, 1, 256)
	if len(m.Letters()) != 256 {
		t.Error("not all are sent")
	}
	for range 3 {
		notSubmits(t, m, setting(257), api.ErrLong)
	}
	is(t, m, 1, 0, 0, 256)
	sends(t, m)
	holds(t, m, row("k", "256", 256))
	hears(t, m, 6, sure(1, 3))
	fills(t, m, 257, 259)
	notSubmits(t, m, setting(260), api.ErrLong)
	is(t, m, 1, 0, 3, 259)
	hears(t, m, 6, sure(1, 259))
	fills(t, m, 260, 515)
	notSubmits(t, m, setting(516), api.ErrLong)
	is(t, m, 1, 0, 259, 515)
	must(t, m.Config(2, []int{5, 4}))
	notSubmits(t, m, setting(516), api.ErrLong)
	must(t, m.Config(3, []int{5}))
	fills(t, m, 516, 516)
}

// Promise 19.2: api.MaxIndex requests may be done, and no more.
func TestSubmitMostDone(t *testing.T) {
	for _, order := range [][]int{{5, 6}, {5}} {
		m := begun(t, 5)
		must(t, m.Load(nil, api.MaxIndex-2))
		must(t, m.Config(1, order))
		submits(t, m, setting(1), api.MaxIndex-1)
		submits(t, m, setting(2), api.MaxIndex)
		was := m.Letters()
		for range 2 {
			notSubmits(t, m, setting(3), api.ErrLong)
		}
		sends(t, m)
		holds(t, m, row("k", "2", 2))
		if len(order) > 1 && !slices.Equal(was, []api.Letter{to(6, down(1, api.MaxIndex-1, setting(1))), to(6, down(1, api.MaxIndex, setting(2)))}) {
			t.Error(brief(was))
		}
	}
}

// Promise 19.2: the tail answers what reads, of its table as it is, and is changed by nothing.
func TestQuery(t *testing.T) {
	m := tail(t)
	hears(t, m, 4, down(1, 1, asked(1, add("k", "v", 5))))
	hears(t, m, 4, down(1, 2, asked(2, add("l", "", 6))))
	m.Letters()
	m.Replies()
	k, l := row("k", "v", 5), row("l", "", 6)
	for _, x := range []struct {
		r    api.Request
		want api.Reply
	}{
		{asked(9, get("k")), replied(9, api.Result{Stamp: 5, Val: "v"})},
		{asked(9, get("j")), replied(9, api.Result{Code: api.ErrMissing})},
		{asked(1, get("l"), many("", 1), get("k"), many("k\x00", 100)), replied(1, api.Result{Stamp: 6}, api.Result{Rows: []api.Row{k}}, api.Result{Stamp: 5, Val: "v"}, api.Result{Rows: []api.Row{l}})},
		{asked(1<<20, get("l"), get("k"), get("j")), failed(1<<20, 2, api.ErrMissing)},
		{asked(4, api.Op{Kind: api.OGet, Key: "k", Test: 4}), replied(4, api.Result{Code: api.ErrStamp, Stamp: 5})},
		{asked(4, many("", 2), api.Op{Kind: api.OGet, Key: "k", Test: 4}), failed(4, 1, api.ErrStamp)},
		{asked(4, many("m", 2)), replied(4, api.Result{})},
	} {
		answers(t, m, x.r, x.want)
		is(t, m, 1, 1, 2, 2)
		sends(t, m)
		tells(t, m)
		holds(t, m, k, l)
	}
	answers(t, alone(t), api.Request{Client: 0, Seq: 1, Ops: []api.Op{get("k")}}, api.Reply{Seq: 1, Results: []api.Result{{Code: api.ErrMissing}}})
	answers(t, m, asked(3, slices.Repeat([]api.Op{get("k")}, 32)...), replied(3, slices.Repeat([]api.Result{{Stamp: 5, Val: "v"}}, 32)...))
}

// Promise 19.2: ErrRole, if it is not the tail, whatever is asked.
func TestQueryNotAtTail(t *testing.T) {
	for _, m := range []*chain.Member{begun(t, 5), outside(t), middle(t), head(t)} {
		for _, r := range append(bad(), asked(1, get("k")), setting(1)) {
			notAnswers(t, m, r, api.ErrRole)
		}
		sends(t, m)
		holds(t, m)
	}
}

// Promise 19.2: ErrBad, if the query may not be, or one of its operations writes, wherever it stands.
func TestQueryBad(t *testing.T) {
	for at, m := range []*chain.Member{alone(t), tail(t)} {
		for _, r := range bad() {
			notAnswers(t, m, r, api.ErrBad)
		}
		for _, x := range []api.Op{add("k", "v", 1), replace("k", "v", 1, 0), set("k", "v", 1), remove("k")} {
			notAnswers(t, m, asked(1, x), api.ErrBad)
			notAnswers(t, m, asked(1, x, get("k")), api.ErrBad)
			notAnswers(t, m, asked(1, get("k"), x), api.ErrBad)
			notAnswers(t, m, asked(1, many("", 1), x, get("k")), api.ErrBad)
			notAnswers(t, m, asked(1, append(slices.Repeat([]api.Op{many("", 1)}, 31), x)...), api.ErrBad)
		}
		is(t, m, 1, at, 0, 0)
		sends(t, m)
		tells(t, m)
		holds(t, m)
	}
}
