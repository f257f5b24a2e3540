package chain_test

import (
	"slices"
	"strings"
	"testing"
	"unsafe"

	"skylark/api"
)

// apart tells whether texts lie in memory of their own.
func apart(texts ...string) bool {
	seen := map[*byte]int{}
	for _, s := range texts {
		seen[unsafe.StringData(s)]++
	}
	return len(seen) == len(texts)
}

// Rule R4: an order that is told is not changed and not kept, spare room too.
func TestOrderIsNotKept(t *testing.T) {
	m := begun(t, 5)
	room := []int{4, 5, 6, 5, 99}
	must(t, m.Config(1, room[:3]))
	if !slices.Equal(room, []int{4, 5, 6, 5, 99}) {
		t.Error(room)
	}
	for i := range room {
		room[i] = 7
	}
	hears(t, m, 4, down(1, 1, setting(1)))
	sends(t, m, to(6, down(1, 1, setting(1))))
	is(t, m, 1, 1, 0, 1)
}

// Rule R4: a request that is submitted or asked is not changed and not kept, spare room too.
func TestRequestIsNotKept(t *testing.T) {
	m := head(t)
	key, val := strings.Repeat("k", 9), strings.Repeat("v", 9)
	room := []api.Op{set(key, val, 1), get(key), {Kind: 99}}
	submits(t, m, asked(1, room[:2]...), 1)
	if !slices.Equal(room, []api.Op{set(key, val, 1), get(key), {Kind: 99}}) {
		t.Error(room)
	}
	was := asked(1, set(key, val, 1), get(key))
	for i := range room {
		room[i] = remove("x")
	}
	sends(t, m, to(6, down(1, 1, was)))
	m.Tick()
	sends(t, m, to(6, down(1, 1, was)))
	rows := m.Rows(api.Span{})
	must(t, m.Config(2, []int{5}))
	p := m.Replies()[0]
	if !apart(key, rows[0].Key) || !apart(val, rows[0].Val, p.Results[1].Val) || p.Results[1].Val != val {
		t.Error("the request's texts are kept")
	}
	room = []api.Op{get(key), many("", 1), {Kind: 99}}
	one, _ := m.Query(asked(1, room[:2]...))
	if !slices.Equal(room, []api.Op{get(key), many("", 1), {Kind: 99}}) || len(one.Results) != 2 {
		t.Error(room, one)
	}
}

// Rule R4: a letter's texts are not kept: the request goes on in memory of its own, and lies so in the table.
func TestLetterIsNotKept(t *testing.T) {
	m := middle(t)
	body := down(1, 1, asked(1, set("k", long(20), 1)))
	hears(t, m, 4, body)
	first := m.Letters()
	m.Tick()
	second := m.Letters()
	m.Tick()
	third := m.Letters()
	if first[0].Body != body || second[0] != first[0] || third[0] != first[0] || !apart(body, first[0].Body, second[0].Body, third[0].Body) {
		t.Error("letters share their bytes")
	}
	at := strings.Index(body, long(20))
	if val := m.Rows(api.Span{})[0].Val; unsafe.StringData(val) == unsafe.StringData(body[at:]) {
		t.Error("a value is the letter's")
	}
}

// Rule R4: rows that are loaded are not changed and not kept, spare room too.
func TestRowsAreNotKept(t *testing.T) {
	m := begun(t, 5)
	key := strings.Repeat("k", 9)
	room := []api.Row{row("a", "x", 1), row(key, "v", 2), row("", "bad", -1)}
	must(t, m.Load(room[:2], 3))
	if !slices.Equal(room, []api.Row{row("a", "x", 1), row(key, "v", 2), row("", "bad", -1)}) {
		t.Error(room)
	}
	clear(room)
	holds(t, m, row("a", "x", 1), row(key, "v", 2))
	if !apart(key, m.Rows(api.Span{From: "b"})[0].Key) {
		t.Error("a key is kept")
	}
}

// Rule R4: answers share nothing with what is kept, nor with one another, spare room too.
func TestAnswersApart(t *testing.T) {
	m := alone(t)
	submits(t, m, asked(1, set("k", long(9), 1)), 1)
	submits(t, m, asked(2, get("k"), many("", 9), many("", 9)), 2)
	l := m.Replies()
	p := l[1].Results
	one, _ := m.Query(asked(3, get("k"), many("", 9)))
	other, _ := m.Query(asked(3, get("k"), many("", 9)))
	rows, again := m.Rows(api.Span{}), m.Rows(api.Span{})
	if !apart(p[0].Val, p[1].Rows[0].Val, p[2].Rows[0].Val, one.Results[0].Val, one.Results[1].Rows[0].Val, other.Results[0].Val, other.Results[1].Rows[0].Val, rows[0].Val, again[0].Val) {
		t.Error("values are shared")
	}
	clear(p[1].Rows[:cap(p[1].Rows)])
	clear(one.Results[1].Rows[:cap(one.Results[1].Rows)])
	clear(one.Results[:cap(one.Results)])
	clear(rows[:cap(rows)])
	kept := row("k", long(9), 1)
	if p[2].Rows[0] != kept || other.Results[1].Rows[0] != kept || again[0] != kept {
		t.Error("rows are shared")
	}
	clear(p[:cap(p)])
	holds(t, m, kept)
	answers(t, m, asked(3, get("k"), many("", 9)), replied(3, api.Result{Stamp: 1, Val: long(9)}, api.Result{Rows: []api.Row{kept}}))
}

// Rule R4: lists of letters and replies are new each time; what comes later is not written into those that were answered.
func TestToldListsApart(t *testing.T) {
	m := begun(t, 5)
	must(t, m.Config(1, []int{4, 5}))
	for n := 1; n <= 5; n++ {
		hears(t, m, 4, down(1, n, setting(n)))
	}
	letters, replies := m.Letters(), m.Replies()
	was, were := slices.Clone(letters), slices.Clone(replies)
	for n := 6; n <= 20; n++ {
		hears(t, m, 4, down(1, n, setting(n)))
	}
	if !slices.Equal(letters, was) || !sameReplies(replies, were) {
		t.Error("later ones were written into a list that was answered")
	}
	clear(letters[:cap(letters)])
	clear(replies[:cap(replies)])
	later, after := m.Letters(), m.Replies()
	if len(later) != 15 || len(after) != 15 || later[0] != to(4, sure(1, 6)) || !sameReply(after[0], settled(6)) {
		t.Error(brief(later), brief(after))
	}
	hears(t, m, 4, down(1, 21, setting(21)))
	clear(later[:cap(later)])
	clear(after[:cap(after)])
	sends(t, m, to(4, sure(1, 21)))
	tells(t, m, settled(21))
}

// Rule R4: replies that a member told as it became the tail are not kept by it.
func TestRepliesOfUnderWayApart(t *testing.T) {
	m := middle(t)
	for n := 1; n <= 12; n++ {
		hears(t, m, 4, down(1, n, setting(n)))
	}
	hears(t, m, 6, sure(1, 4))
	must(t, m.Config(2, []int{4, 5}))
	l := m.Replies()
	if len(l) != 8 || !sameReply(l[0], settled(5)) {
		t.Fatal(brief(l))
	}
	clear(l[:cap(l)])
	must(t, m.Config(3, []int{4, 5, 6}))
	hears(t, m, 4, down(3, 13, setting(13)))
	m.Letters()
	m.Tick()
	sends(t, m, to(6, down(3, 13, setting(13))))
	must(t, m.Config(4, []int{5}))
	tells(t, m, settled(13))
}
