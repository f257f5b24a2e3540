package op_test

import (
	"math"
	"math/rand"
	"slices"
	"strings"

	"skylark/api"
)

// num and txt are fields' bytes, written apart from package code, so that lists that it refuses can be written too.
func num(n int) string {
	var b []byte
	for u := uint64(n); u > 0; u /= 256 {
		b = append(b, byte(u%256))
	}
	return "N" + string(rune(len(b))) + string(b)
}

func txt(s string) string {
	return "T" + num(len(s))[1:] + s
}

// list is the bytes of numbers and texts.
func list(fields ...any) string {
	var b strings.Builder
	for _, f := range fields {
		switch x := f.(type) {
		case int:
			b.WriteString(num(x))
		case string:
			b.WriteString(txt(x))
		}
	}
	return b.String()
}

func requestBytes(r api.Request) string {
	var b strings.Builder
	b.WriteString(list(r.Client, r.Seq, len(r.Ops)))
	for _, x := range r.Ops {
		b.WriteString(list(x.Kind, x.Key, x.Val, x.Stamp, x.Test, x.Most))
	}
	return b.String()
}

func replyBytes(r api.Reply) string {
	var b strings.Builder
	b.WriteString(list(r.Client, r.Seq, r.Fault.At, int(r.Fault.Code), len(r.Results)))
	for _, x := range r.Results {
		b.WriteString(list(int(x.Code), x.Stamp, x.Val, len(x.Rows)))
		for _, row := range x.Rows {
			b.WriteString(list(row.Key, row.Stamp, row.Val))
		}
	}
	return b.String()
}

// long is a text of so many bytes.
func long(many int) string {
	return strings.Repeat("k", many)
}

func request(ops ...api.Op) api.Request {
	return api.Request{Client: 3, Seq: 1, Ops: ops}
}

func reply(results ...api.Result) api.Reply {
	return api.Reply{Client: 3, Seq: 1, Results: results}
}

func refusal(at int, code api.Errno) api.Reply {
	return api.Reply{Client: 3, Seq: 1, Fault: api.Fault{At: at, Code: code}}
}

// rows are so many that may be.
func rows(many int) []api.Row {
	return slices.Repeat([]api.Row{{Key: "k", Stamp: 1}}, many)
}

// fieldsIn is how many fields the list of a reply has.
func fieldsIn(r api.Reply) int {
	many := 5
	for _, x := range r.Results {
		many += 4 + 3*len(x.Rows)
	}
	return many
}

// filled is a reply of so many results, the first ones with as many rows as a result may have, till there are so many in all.
func filled(results, rowsInAll int) api.Reply {
	r := api.Reply{Client: 1, Seq: 1}
	for range results {
		many := min(100, rowsInAll)
		rowsInAll -= many
		r.Results = append(r.Results, api.Result{Rows: rows(many)})
	}
	return r
}

func sameRequest(a, b api.Request) bool {
	return a.Client == b.Client && a.Seq == b.Seq && slices.Equal(a.Ops, b.Ops)
}

func sameReply(a, b api.Reply) bool {
	return a.Client == b.Client && a.Seq == b.Seq && a.Fault == b.Fault && slices.EqualFunc(a.Results, b.Results, sameResult)
}

func sameResult(a, b api.Result) bool {
	return a.Code == b.Code && a.Stamp == b.Stamp && a.Val == b.Val && slices.Equal(a.Rows, b.Rows)
}

// goodOps are operations that may be, at the edges of what they may have.
func goodOps() []api.Op {
	var ops []api.Op
	for _, key := range []string{"k", "\x00", "\xff", "N\x00T\x00", long(api.MaxKey)} {
		for _, test := range []int{0, 1, api.MaxStamp} {
			ops = append(ops, api.Op{Kind: api.ODelete, Key: key, Test: test}, api.Op{Kind: api.OGet, Key: key, Test: test})
			for _, val := range []string{"", "v", "\x00\xff", long(api.MaxVal), long(api.MaxVal + 1), long(2 * api.MaxVal)} {
				for _, stamp := range []int{1, 2, api.MaxStamp} {
					ops = append(ops, api.Op{Kind: api.OReplace, Key: key, Val: val, Stamp: stamp, Test: test}, api.Op{Kind: api.OSet, Key: key, Val: val, Stamp: stamp, Test: test})
					if test == 0 {
						ops = append(ops, api.Op{Kind: api.OAdd, Key: key, Val: val, Stamp: stamp})
					}
				}
			}
		}
		for _, most := range []int{1, 2, 100} {
			ops = append(ops, api.Op{Kind: api.OMany, Key: key, Most: most}, api.Op{Kind: api.OMany, Most: most})
		}
	}
	return ops
}

// badOps are operations that may not be, each for one thing alone.
func badOps() []api.Op {
	ops := []api.Op{{}, {Kind: -1, Key: "k"}, {Kind: 7, Key: "k"}, {Kind: 7, Key: "k", Most: 1}, {Kind: 257, Key: "k", Stamp: 1}, {Kind: 1<<32 + 5, Key: "k"}, {Kind: math.MinInt, Key: "k"}, {Kind: math.MaxInt, Key: "k"}}
	no := []int{-1, api.MaxStamp + 1, math.MinInt, math.MaxInt}
	for _, kind := range []int{api.OAdd, api.OReplace, api.OSet} {
		ops = append(ops, api.Op{Kind: kind, Stamp: 1}, api.Op{Kind: kind, Key: long(api.MaxKey + 1), Stamp: 1}, api.Op{Kind: kind, Key: long(5000), Stamp: 1})
		ops = append(ops, api.Op{Kind: kind, Key: "k", Val: long(2*api.MaxVal + 1), Stamp: 1}, api.Op{Kind: kind, Key: "k"})
		for _, n := range no {
			ops = append(ops, api.Op{Kind: kind, Key: "k", Stamp: n}, api.Op{Kind: kind, Key: "k", Stamp: 1, Test: n}, api.Op{Kind: kind, Key: "k", Stamp: 1, Most: n})
		}
		ops = append(ops, api.Op{Kind: kind, Key: "k", Stamp: 1, Most: 1})
	}
	ops = append(ops, api.Op{Kind: api.OAdd, Key: "k", Stamp: 1, Test: 1}, api.Op{Kind: api.OAdd, Key: "k", Stamp: 1, Test: api.MaxStamp})
	for _, kind := range []int{api.ODelete, api.OGet} {
		ops = append(ops, api.Op{Kind: kind}, api.Op{Kind: kind, Key: long(api.MaxKey + 1)}, api.Op{Kind: kind, Key: "k", Val: "x"})
		for _, n := range append([]int{1}, no...) {
			ops = append(ops, api.Op{Kind: kind, Key: "k", Stamp: n}, api.Op{Kind: kind, Key: "k", Most: n})
		}
		for _, n := range no {
			ops = append(ops, api.Op{Kind: kind, Key: "k", Test: n})
		}
	}
	for _, n := range []int{0, -1, 101, math.MinInt, math.MaxInt} {
		ops = append(ops, api.Op{Kind: api.OMany, Key: "k", Most: n})
	}
	ops = append(ops, api.Op{Kind: api.OMany, Key: long(api.MaxKey + 1), Most: 1}, api.Op{Kind: api.OMany, Val: "v", Most: 1})
	for _, n := range append([]int{1}, no...) {
		ops = append(ops, api.Op{Kind: api.OMany, Most: 1, Stamp: n}, api.Op{Kind: api.OMany, Most: 1, Test: n})
	}
	return ops
}

// badHeads are clients and numbers of which there can be no request.
func badHeads() [][2]int {
	return [][2]int{{-1, 1}, {1001, 1}, {math.MinInt, 1}, {math.MaxInt, 1}, {3, 0}, {3, -1}, {3, api.MaxIndex + 1}, {3, math.MinInt}, {3, math.MaxInt}, {-1, 0}}
}

func goodHeads() [][2]int {
	return [][2]int{{0, 1}, {1, 1}, {1000, 1}, {0, api.MaxIndex}, {1000, api.MaxIndex}}
}

// badRequests are requests that may not be.
func badRequests() []api.Request {
	get := api.Op{Kind: api.OGet, Key: "k"}
	bad := []api.Request{{}, request(), {Client: 3, Seq: 1, Ops: []api.Op{}}, request(slices.Repeat([]api.Op{get}, api.MaxOps+1)...), request(slices.Repeat([]api.Op{get}, 700)...)}
	for _, h := range badHeads() {
		bad = append(bad, api.Request{Client: h[0], Seq: h[1], Ops: []api.Op{get}})
	}
	for _, x := range badOps() {
		bad = append(bad, request(x), request(get, x), request(x, get), request(append(slices.Repeat([]api.Op{get}, api.MaxOps-1), x)...))
	}
	return bad
}

// goodRequests are requests that may be, and whose bytes are not too many.
func goodRequests() []api.Request {
	get := api.Op{Kind: api.OGet, Key: "k"}
	good := []api.Request{request(slices.Repeat([]api.Op{get}, api.MaxOps)...)}
	for _, h := range goodHeads() {
		good = append(good, api.Request{Client: h[0], Seq: h[1], Ops: []api.Op{get}})
	}
	for _, x := range goodOps() {
		good = append(good, request(x), request(get, x, get))
	}
	return good
}

// badResults are results that may not be, each for one thing alone.
func badResults() []api.Result {
	bad := []api.Result{{Val: long(2*api.MaxVal + 1)}, {Rows: rows(101)}, {Rows: rows(5000)}}
	for _, n := range []int{-1, 301, math.MinInt, math.MaxInt} {
		bad = append(bad, api.Result{Code: api.Errno(n)})
	}
	for _, n := range []int{-1, api.MaxStamp + 1, math.MinInt, math.MaxInt} {
		bad = append(bad, api.Result{Stamp: n}, api.Result{Rows: []api.Row{{Key: "k", Stamp: n}}})
	}
	for _, row := range []api.Row{{Key: "k"}, {Stamp: 1}, {Key: long(api.MaxKey + 1), Stamp: 1}, {Key: "k", Stamp: 1, Val: long(2*api.MaxVal + 1)}} {
		bad = append(bad, api.Result{Rows: []api.Row{row}}, api.Result{Rows: append(rows(99), row)}, api.Result{Rows: append([]api.Row{row}, rows(99)...)})
	}
	return bad
}

// goodResults are results that may be, at the edges of what they may have.
func goodResults() []api.Result {
	good := []api.Result{{}, {Val: long(2 * api.MaxVal)}, {Rows: rows(1)}, {Rows: rows(100)}, {Code: 300, Stamp: api.MaxStamp, Val: "v", Rows: rows(2)}}
	for _, n := range []int{1, 7, 9, 299, 300} {
		good = append(good, api.Result{Code: api.Errno(n)})
	}
	for _, n := range []int{1, 256, api.MaxStamp} {
		good = append(good, api.Result{Stamp: n}, api.Result{Rows: []api.Row{{Key: "k", Stamp: n}}})
	}
	for _, row := range []api.Row{{Key: "\x00", Stamp: 1}, {Key: long(api.MaxKey), Stamp: 1}, {Key: "a", Stamp: 1, Val: long(2 * api.MaxVal)}} {
		good = append(good, api.Result{Rows: []api.Row{row}}, api.Result{Rows: append(rows(99), row)})
	}
	return good
}

// badReplies are replies that may not be.
func badReplies() []api.Reply {
	bad := []api.Reply{{}, reply(), {Client: 3, Seq: 1, Results: []api.Result{}}, refusal(1, api.OK), refusal(-1, api.OK), reply(make([]api.Result, api.MaxOps+1)...), reply(make([]api.Result, 900)...)}
	for _, h := range badHeads() {
		bad = append(bad, api.Reply{Client: h[0], Seq: h[1], Results: []api.Result{{}}}, api.Reply{Client: h[0], Seq: h[1], Fault: api.Fault{Code: api.ErrBad}})
	}
	for _, f := range []api.Fault{{At: 1}, {At: -1}, {Code: api.ErrBad}, {Code: -1}, {At: 1, Code: api.ErrBad}} {
		bad = append(bad, api.Reply{Client: 3, Seq: 1, Results: []api.Result{{}}, Fault: f}, api.Reply{Client: 3, Seq: 1, Results: make([]api.Result, api.MaxOps), Fault: f})
	}
	for _, x := range badResults() {
		bad = append(bad, reply(x), reply(x, api.Result{}), reply(append(make([]api.Result, api.MaxOps-1), x)...))
	}
	return bad
}

// goodReplies are replies that may be, and whose lists are not too long.
func goodReplies() []api.Reply {
	good := []api.Reply{reply(make([]api.Result, api.MaxOps)...)}
	for _, h := range goodHeads() {
		good = append(good, api.Reply{Client: h[0], Seq: h[1], Results: []api.Result{{}}}, api.Reply{Client: h[0], Seq: h[1], Fault: api.Fault{Code: api.ErrBad}})
	}
	for _, at := range []int{0, 1, 31, 32, 1000, -1, math.MinInt, math.MaxInt} {
		for _, code := range []api.Errno{1, api.ErrLate, 300, 301, -1, math.MinInt, math.MaxInt} {
			good = append(good, refusal(at, code))
		}
	}
	for _, x := range goodResults() {
		good = append(good, reply(x), reply(api.Result{}, x, api.Result{}))
	}
	return good
}

func drawnText(r *rand.Rand, least, most int) string {
	b := make([]byte, least+r.Intn(most-least+1))
	r.Read(b)
	return string(b)
}

// drawnStamp draws stamps of all lengths.
func drawnStamp(r *rand.Rand, least int) int {
	return max(least, (r.Intn(api.MaxStamp)+1)>>r.Intn(42))
}

func drawnOp(r *rand.Rand) api.Op {
	x := api.Op{Kind: 1 + r.Intn(6), Key: drawnText(r, 1, api.MaxKey)}
	switch x.Kind {
	case api.OAdd:
		x.Val, x.Stamp = drawnText(r, 0, 300), drawnStamp(r, 1)
	case api.OReplace, api.OSet:
		x.Val, x.Stamp, x.Test = drawnText(r, 0, 300), drawnStamp(r, 1), drawnStamp(r, 0)
	case api.ODelete, api.OGet:
		x.Test = drawnStamp(r, 0)
	case api.OMany:
		x.Key, x.Most = drawnText(r, 0, api.MaxKey), 1+r.Intn(100)
	}
	return x
}

func drawnRequest(r *rand.Rand) api.Request {
	x := api.Request{Client: r.Intn(1001), Seq: 1 + r.Intn(api.MaxIndex)}
	for range 1 + r.Intn(1+r.Intn(api.MaxOps)) {
		x.Ops = append(x.Ops, drawnOp(r))
	}
	return x
}

func drawnResult(r *rand.Rand) api.Result {
	x := api.Result{Code: api.Errno(r.Intn(301)), Stamp: drawnStamp(r, 0), Val: drawnText(r, 0, 100)}
	for range r.Intn(1 + r.Intn(20)) {
		x.Rows = append(x.Rows, api.Row{Key: drawnText(r, 1, api.MaxKey), Stamp: drawnStamp(r, 1), Val: drawnText(r, 0, 50)})
	}
	return x
}

func drawnReply(r *rand.Rand) api.Reply {
	x := api.Reply{Client: r.Intn(1001), Seq: 1 + r.Intn(api.MaxIndex)}
	if r.Intn(4) == 0 {
		x.Fault = api.Fault{At: r.Intn(api.MaxOps), Code: api.Errno(1 + r.Intn(300))}
		return x
	}
	for range 1 + r.Intn(1+r.Intn(api.MaxOps)) {
		x.Results = append(x.Results, drawnResult(r))
	}
	return x
}
