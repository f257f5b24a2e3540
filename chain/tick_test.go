package chain_test

import (
	"math"
	"testing"

	"skylark/api"
	"skylark/chain"
)

// Promise 19.4: a tick sends the first 8 that are under way to the one behind, and no others.
func TestTick(t *testing.T) {
	m := head(t)
	m.Tick()
	sends(t, m)
	for n := 1; n <= 20; n++ {
		fills(t, m, n, n)
		m.Letters()
		m.Tick()
		var want []api.Letter
		for i := 1; i <= min(n, 8); i++ {
			want = append(want, to(6, down(1, i, setting(i))))
		}
		sends(t, m, want...)
	}
	is(t, m, 1, 0, 0, 20)
	hears(t, m, 6, sure(1, 14))
	m.Tick()
	m.Tick()
	var want []api.Letter
	for range 2 {
		for i := 15; i <= 20; i++ {
			want = append(want, to(6, down(1, i, setting(i))))
		}
	}
	sends(t, m, want...)
	sends(t, m)
	hears(t, m, 6, sure(1, 20))
	m.Tick()
	sends(t, m)
}

// Promise 19.4: a member between others sends again, too; one at the end, alone, or without a place has nobody behind.
func TestTickElsewhere(t *testing.T) {
	m := middle(t)
	hears(t, m, 4, down(1, 1, setting(1)))
	m.Letters()
	m.Tick()
	sends(t, m, to(6, down(1, 1, setting(1))))
	must(t, m.Config(2, []int{4, 6}))
	for _, x := range []*chain.Member{m, tail(t), alone(t), outside(t), begun(t, 5)} {
		x.Tick()
		sends(t, x)
		tells(t, x)
	}
}

// Promise 19.4: letters and replies are told once, in order, all that came since they were told last.
func TestLettersAndRepliesOnce(t *testing.T) {
	m := begun(t, 5)
	must(t, m.Config(1, []int{4, 5}))
	for n := 1; n <= 3; n++ {
		hears(t, m, 4, down(1, n, setting(n)))
	}
	tells(t, m, settled(1), settled(2), settled(3))
	tells(t, m)
	sends(t, m, to(4, sure(1, 0)), to(4, sure(1, 1)), to(4, sure(1, 2)), to(4, sure(1, 3)))
	sends(t, m)
	hears(t, m, 4, down(1, 4, setting(4)))
	hears(t, m, 4, down(1, 2, setting(4)))
	sends(t, m, to(4, sure(1, 4)), to(4, sure(1, 4)))
	tells(t, m, settled(4))
}

// Promise 19.4: the rows of a span, which need not be one that may be, wherever the member stands.
func TestRows(t *testing.T) {
	a, b, c := row("a", "x", 1), row("b", "", 2), row("ba", "z", 3)
	m := begun(t, 5)
	must(t, m.Load([]api.Row{a, b, c}, 0))
	for epoch := 1; epoch < 4; epoch++ {
		for _, x := range []struct {
			s    api.Span
			want []api.Row
		}{
			{api.Span{}, []api.Row{a, b, c}}, {api.Span{From: "b"}, []api.Row{b, c}}, {api.Span{To: "b"}, []api.Row{a}}, {api.Span{From: "a\x00", To: "ba"}, []api.Row{b}}, {api.Span{From: "b", To: "a"}, nil}, {api.Span{From: "b", To: "b"}, nil}, {api.Span{From: long(99)}, nil}, {api.Span{To: long(99)}, []api.Row{a, b, c}},
		} {
			got := m.Rows(x.s)
			if len(got) != len(x.want) {
				t.Error(x, got)
				continue
			}
			for i := range got {
				if got[i] != x.want[i] {
					t.Error(x, got)
				}
			}
		}
		must(t, m.Config(epoch, []int{4, 5, 6}[:epoch]))
	}
}

// Promise 19.4: a member without a place takes just these rows, is done and sure so far, and keeps nothing.
func TestLoad(t *testing.T) {
	m := begun(t, 5)
	must(t, m.Load([]api.Row{row("k", "v", 7), row("l", long(4096), 1<<40)}, 9))
	is(t, m, 0, -1, 9, 9)
	holds(t, m, row("k", "v", 7), row("l", long(4096), 1<<40))
	must(t, m.Load([]api.Row{row("j", "", 1), row("l", "w", 2)}, 3))
	is(t, m, 0, -1, 3, 3)
	holds(t, m, row("j", "", 1), row("l", "w", 2))
	sends(t, m)
	tells(t, m)
	must(t, m.Config(4, []int{4, 5}))
	is(t, m, 4, 1, 3, 3)
	sends(t, m, to(4, sure(4, 3)))
	hears(t, m, 4, down(4, 4, asked(1, get("l"))))
	tells(t, m, replied(1, api.Result{Stamp: 2, Val: "w"}))
	for _, none := range [][]api.Row{nil, {}} {
		m = outside(t)
		must(t, m.Load(numbered(4096), 1<<20))
		is(t, m, 1, -1, 1<<20, 1<<20)
		holds(t, m, numbered(4096)...)
		must(t, m.Load(none, 0))
		is(t, m, 1, -1, 0, 0)
		holds(t, m)
	}
}

// Promise 19.4: what was under way is gone with a Load, and its replies; what was to be sent and told stays to be.
func TestLoadKeepsNothing(t *testing.T) {
	m := middle(t)
	for n := 1; n <= 3; n++ {
		hears(t, m, 4, down(1, n, setting(n)))
	}
	hears(t, m, 6, sure(1, 1))
	must(t, m.Config(2, []int{4, 6}))
	is(t, m, 2, -1, 1, 3)
	must(t, m.Load([]api.Row{row("j", "v", 1)}, 2))
	is(t, m, 2, -1, 2, 2)
	sends(t, m, to(6, down(1, 1, setting(1))), to(6, down(1, 2, setting(2))), to(6, down(1, 3, setting(3))), to(4, sure(1, 1)))
	must(t, m.Config(3, []int{5, 6}))
	m.Tick()
	sends(t, m)
	submits(t, m, setting(3), 3)
	sends(t, m, to(6, down(3, 3, setting(3))))
	must(t, m.Config(4, []int{5}))
	tells(t, m, settled(3))
	holds(t, m, row("j", "v", 1), row("k", "3", 3))
	submits(t, m, setting(4), 4)
	must(t, m.Config(5, []int{6}))
	must(t, m.Load(nil, 0))
	tells(t, m, settled(4))
}

// Promise 19.4: the first thing that is wrong is told, and nothing is changed: a place, a number, rows.
func TestLoadRefuses(t *testing.T) {
	for _, m := range []*chain.Member{head(t), middle(t), tail(t), alone(t)} {
		_, at, _, _ := m.State()
		told(t, m.Load(nil, 0), api.ErrRole)
		told(t, m.Load(nil, -1), api.ErrRole)
		told(t, m.Load([]api.Row{{}}, 1), api.ErrRole)
		told(t, m.Load(numbered(1), 1), api.ErrRole)
		is(t, m, 1, at, 0, 0)
		holds(t, m)
	}
	m := middle(t)
	hears(t, m, 4, down(1, 1, setting(1)))
	must(t, m.Config(2, []int{4, 6}))
	m.Letters()
	for _, x := range []struct {
		rows []api.Row
		done int
		want api.Errno
	}{
		{nil, -1, api.ErrRange}, {nil, 1<<20 + 1, api.ErrRange}, {nil, math.MinInt, api.ErrRange}, {nil, math.MaxInt, api.ErrRange}, {[]api.Row{{}}, -1, api.ErrRange}, {numbered(4097), 1<<20 + 1, api.ErrRange},
		{[]api.Row{{}}, 0, api.ErrBad}, {[]api.Row{row("", "v", 1)}, 0, api.ErrBad}, {[]api.Row{row(long(65), "v", 1)}, 0, api.ErrBad}, {[]api.Row{row("k", "v", 0)}, 0, api.ErrBad}, {[]api.Row{row("k", "v", 1<<40+1)}, 0, api.ErrBad}, {[]api.Row{row("k", long(4097), 1)}, 0, api.ErrBad},
		{[]api.Row{row("k", "v", 1), row("j", "v", 1), row("l", "v", 0)}, 0, api.ErrBad}, {append(numbered(4097), api.Row{}), 0, api.ErrBad},
		{[]api.Row{row("k", "v", 1), row("k", "w", 2)}, 0, api.ErrShape}, {[]api.Row{row("k", "v", 1), row("j", "w", 2)}, 0, api.ErrShape}, {append(numbered(4097), row("0", "v", 1)), 0, api.ErrShape},
		{numbered(4097), 0, api.ErrSpace},
	} {
		if e := m.Load(x.rows, x.done); e != x.want {
			t.Error(brief(x.rows), x.done, e, x.want)
		}
		is(t, m, 2, -1, 0, 1)
		holds(t, m, row("k", "1", 1))
	}
	must(t, m.Config(3, []int{5, 6}))
	m.Tick()
	sends(t, m, to(6, down(3, 1, setting(1))))
}
