package chain_test

import (
	"encoding/binary"
	"fmt"
	"reflect"
	"slices"
	"strings"
	"testing"

	"skylark/api"
	"skylark/chain"
)

// brief is the beginning of what something looks like.
func brief(x any) string {
	s := fmt.Sprintf("%#v", x)
	return s[:min(len(s), 600)]
}

func add(key, val string, stamp int) api.Op {
	return api.Op{Kind: api.OAdd, Key: key, Val: val, Stamp: stamp}
}

func replace(key, val string, stamp, test int) api.Op {
	return api.Op{Kind: api.OReplace, Key: key, Val: val, Stamp: stamp, Test: test}
}

func set(key, val string, stamp int) api.Op {
	return api.Op{Kind: api.OSet, Key: key, Val: val, Stamp: stamp}
}

func remove(key string) api.Op {
	return api.Op{Kind: api.ODelete, Key: key}
}

func get(key string) api.Op {
	return api.Op{Kind: api.OGet, Key: key}
}

func many(key string, most int) api.Op {
	return api.Op{Kind: api.OMany, Key: key, Most: most}
}

// asked is a request of the client 3.
func asked(seq int, ops ...api.Op) api.Request {
	return api.Request{Client: 3, Seq: seq, Ops: ops}
}

// setting is the request of that number that puts a row of the key k in, with that number as its stamp.
func setting(n int) api.Request {
	return asked(n, set("k", fmt.Sprint(n), n))
}

// settled is the reply to setting.
func settled(n int) api.Reply {
	return replied(n, api.Result{Stamp: n})
}

func replied(seq int, results ...api.Result) api.Reply {
	return api.Reply{Client: 3, Seq: seq, Results: results}
}

func failed(seq, at int, code api.Errno) api.Reply {
	return api.Reply{Client: 3, Seq: seq, Fault: api.Fault{At: at, Code: code}}
}

func row(key, val string, stamp int) api.Row {
	return api.Row{Key: key, Stamp: stamp, Val: val}
}

// numbered are so many rows, their keys 0000, 0001 and so on.
func numbered(size int) []api.Row {
	var rows []api.Row
	for i := range size {
		rows = append(rows, row(fmt.Sprintf("%04d", i), "v", 1+i))
	}
	return rows
}

// long is a text of so many bytes.
func long(size int) string {
	return strings.Repeat("v", size)
}

// sized is a request that may be, of just so many bytes.
func sized(t *testing.T, size int) api.Request {
	t.Helper()
	r := asked(1, slices.Repeat([]api.Op{set("k", long(2*api.MaxVal), 1)}, api.MaxOps)...)
	for len(bytesOf(r)) > size+2*api.MaxVal {
		r.Ops = r.Ops[1:]
	}
	r.Ops[0].Val = r.Ops[0].Val[:2*api.MaxVal-(len(bytesOf(r))-size)]
	if len(bytesOf(r)) != size {
		t.Fatal(size, len(bytesOf(r)))
	}
	return r
}

// number and text are fields' bytes, written without package code.
func number(n int64) string {
	b := strings.TrimRight(string(binary.LittleEndian.AppendUint64(nil, uint64(n))), "\x00")
	return "N" + string([]byte{byte(len(b))}) + b
}

func text(s string) string {
	return "T" + number(int64(len(s)))[1:] + s
}

// list is the bytes of numbers and texts.
func list(parts ...any) string {
	body := ""
	for _, p := range parts {
		switch x := p.(type) {
		case int:
			body += number(int64(x))
		case string:
			body += text(x)
		default:
			panic(fmt.Sprint(x))
		}
	}
	return body
}

// bytesOf are a request's bytes, written without package op.
func bytesOf(r api.Request) string {
	b := list(r.Client, r.Seq, len(r.Ops))
	for _, x := range r.Ops {
		b += list(x.Kind, x.Key, x.Val, x.Stamp, x.Test, x.Most)
	}
	return b
}

// down and sure are the two kinds of letters.
func down(epoch, n int, r api.Request) string { return list(1, epoch, n, bytesOf(r)) }

func sure(epoch, n int) string { return list(2, epoch, n) }

// to is a letter to a brick.
func to(brick int, body string) api.Letter {
	return api.Letter{To: brick, Body: body}
}

// must fails unless a call was taken.
func must(t *testing.T, e api.Errno) {
	t.Helper()
	if e != api.OK {
		t.Fatal(e)
	}
}

// told fails unless a call answered that.
func told(t *testing.T, got, want api.Errno) {
	t.Helper()
	if got != want {
		t.Errorf("%v, not %v", got, want)
	}
}

func begun(t *testing.T, id int) *chain.Member {
	t.Helper()
	m, e := chain.New(id)
	if m == nil || e != api.OK {
		t.Fatal(id, m, e)
	}
	return m
}

// placed is the member 5, told that order in the epoch 1; its letters are read.
func placed(t *testing.T, order ...int) *chain.Member {
	t.Helper()
	m := begun(t, 5)
	must(t, m.Config(1, order))
	m.Letters()
	return m
}

func head(t *testing.T) *chain.Member { t.Helper(); return placed(t, 5, 6) }

func middle(t *testing.T) *chain.Member { t.Helper(); return placed(t, 4, 5, 6) }

func tail(t *testing.T) *chain.Member { t.Helper(); return placed(t, 4, 5) }

func alone(t *testing.T) *chain.Member { t.Helper(); return placed(t, 5) }

// outside is a member that an order was told to in which it is not.
func outside(t *testing.T) *chain.Member { t.Helper(); return placed(t, 4, 6) }

// is fails unless the member tells that.
func is(t *testing.T, m *chain.Member, epoch, place, sure, done int) {
	t.Helper()
	a, b, c, d := m.State()
	if got, want := [4]int{a, b, c, d}, [4]int{epoch, place, sure, done}; got != want {
		t.Errorf("%v, not %v", got, want)
	}
}

// sends fails unless these are the letters that the member wants to send since it was asked last.
func sends(t *testing.T, m *chain.Member, want ...api.Letter) {
	t.Helper()
	if got := m.Letters(); !slices.Equal(got, want) {
		t.Errorf("%s, not %s", brief(got), brief(want))
	}
}

// tells fails unless these are the replies that the member tells since it was asked last.
func tells(t *testing.T, m *chain.Member, want ...api.Reply) {
	t.Helper()
	if got := m.Replies(); !sameReplies(got, want) {
		t.Errorf("%s, not %s", brief(got), brief(want))
	}
}

func sameReplies(a, b []api.Reply) bool {
	return slices.EqualFunc(a, b, sameReply)
}

func sameReply(a, b api.Reply) bool {
	return a.Client == b.Client && a.Seq == b.Seq && a.Fault == b.Fault && slices.EqualFunc(a.Results, b.Results, sameResult)
}

func sameResult(a, b api.Result) bool {
	return a.Code == b.Code && a.Stamp == b.Stamp && a.Val == b.Val && slices.Equal(a.Rows, b.Rows)
}

// holds fails unless these are the member's rows.
func holds(t *testing.T, m *chain.Member, want ...api.Row) {
	t.Helper()
	if got := m.Rows(api.Span{}); !slices.Equal(got, want) {
		t.Errorf("%s, not %s", brief(got), brief(want))
	}
}

// submits fails unless the head gives a request that number.
func submits(t *testing.T, m *chain.Member, r api.Request, want int) {
	t.Helper()
	if n, e := m.Submit(r); n != want || e != api.OK {
		t.Fatalf("%s: %v %v, not %v", brief(r), n, e, want)
	}
}

// notSubmits fails unless a request is refused so.
func notSubmits(t *testing.T, m *chain.Member, r api.Request, want api.Errno) {
	t.Helper()
	if n, e := m.Submit(r); n != 0 || e != want {
		t.Errorf("%s: %v %v, not %v", brief(r), n, e, want)
	}
}

// fills submits the settings from one number to another.
func fills(t *testing.T, m *chain.Member, from, to int) {
	t.Helper()
	for n := from; n <= to; n++ {
		submits(t, m, setting(n), n)
	}
}

// answers fails unless a query is answered so.
func answers(t *testing.T, m *chain.Member, r api.Request, want api.Reply) {
	t.Helper()
	if p, e := m.Query(r); e != api.OK || !sameReply(p, want) {
		t.Errorf("%s: %v %s, not %s", brief(r), e, brief(p), brief(want))
	}
}

// notAnswers fails unless a query is refused so.
func notAnswers(t *testing.T, m *chain.Member, r api.Request, want api.Errno) {
	t.Helper()
	if p, e := m.Query(r); e != want || !reflect.DeepEqual(p, api.Reply{}) {
		t.Errorf("%s: %v %s, not %v", brief(r), e, brief(p), want)
	}
}

// hears lets the member take a letter.
func hears(t *testing.T, m *chain.Member, from int, body string) {
	t.Helper()
	if e := m.Hear(from, body); e != api.OK {
		t.Fatalf("%d %.100q: %v", from, body, e)
	}
}

// refuses fails unless the member tells that error of a letter, and nothing is changed by it.
func refuses(t *testing.T, m *chain.Member, from int, body string, want api.Errno) {
	t.Helper()
	m.Letters()
	m.Replies()
	a, b, c, d := m.State()
	rows := m.Rows(api.Span{})
	if e := m.Hear(from, body); e != want {
		t.Errorf("%d %.100q: %v, not %v", from, body, e, want)
	}
	is(t, m, a, b, c, d)
	sends(t, m)
	tells(t, m)
	holds(t, m, rows...)
}
