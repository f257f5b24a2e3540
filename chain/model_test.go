package chain_test

import (
	"fmt"
	"math/rand"
	"slices"
	"testing"

	"skylark/api"
	"skylark/chain"
	"skylark/op"
	"skylark/table"
)

// mail is a letter that is not written as bytes.
type mail struct {
	kind, epoch, number int
	r                   api.Request
}

func (l mail) bytes() string {
	if l.kind == 1 {
		return down(l.epoch, l.number, l.r)
	}
	return sure(l.epoch, l.number)
}

// model is a member as the chapter's words have it: what is under way is found by its number.
type model struct {
	id, epoch  int
	order      []int
	rows       *table.Table
	sure, done int
	requests   map[int]api.Request
	had        map[int]api.Reply
	letters    []api.Letter
	replies    []api.Reply
}

func newModel(id int) *model {
	return &model{id: id, rows: table.New(), requests: map[int]api.Request{}, had: map[int]api.Reply{}}
}

func (m *model) place() int { return slices.Index(m.order, m.id) }

func (m *model) isHead() bool { return m.place() == 0 }

func (m *model) isTail() bool { return m.place() >= 0 && m.order[len(m.order)-1] == m.id }

// next is the number of the brick so many places on; -1, if there is none.
func (m *model) next(by int) int {
	at := m.place()
	if at < 0 || at+by < 0 || at+by >= len(m.order) {
		return -1
	}
	return m.order[at+by]
}

func (m *model) tellSure() {
	if m.next(-1) >= 0 {
		m.letters = append(m.letters, to(m.next(-1), sure(m.epoch, m.sure)))
	}
}

// end takes what is under way up to a number away.
func (m *model) end(upTo int) {
	for m.sure < upTo {
		m.sure++
		if m.isTail() {
			m.replies = append(m.replies, m.had[m.sure])
		}
		delete(m.requests, m.sure)
		delete(m.had, m.sure)
	}
	m.tellSure()
}

func (m *model) config(epoch int, order []int) api.Errno {
	if epoch < 1 {
		return api.ErrRange
	}
	if epoch <= m.epoch {
		return api.ErrStale
	}
	m.epoch, m.order = epoch, order
	if m.isTail() {
		m.end(m.done)
	}
	return api.OK
}

func (m *model) do(r api.Request) {
	m.done++
	results, f := m.rows.Do(r.Ops)
	m.requests[m.done] = r
	m.had[m.done] = api.Reply{Client: r.Client, Seq: r.Seq, Results: results, Fault: f}
	if m.isTail() {
		m.end(m.done)
	} else {
		m.letters = append(m.letters, to(m.next(1), down(m.epoch, m.done, r)))
	}
}

func (m *model) submit(r api.Request) (int, api.Errno) {
	if !m.isHead() {
		return 0, api.ErrRole
	}
	if op.CheckAll(r) != api.OK {
		return 0, api.ErrBad
	}
	if len(bytesOf(r)) > 60000 || m.done-m.sure >= 256 || m.done == 1<<20 {
		return 0, api.ErrLong
	}
	m.do(r)
	return m.done, api.OK
}

func (m *model) query(r api.Request) (api.Reply, api.Errno) {
	if !m.isTail() {
		return api.Reply{}, api.ErrRole
	}
	if op.CheckAll(r) != api.OK {
		return api.Reply{}, api.ErrBad
	}
	for _, x := range r.Ops {
		if x.Kind < api.OGet {
			return api.Reply{}, api.ErrBad
		}
	}
	results, f := m.rows.Fork().Do(r.Ops)
	return api.Reply{Client: r.Client, Seq: r.Seq, Results: results, Fault: f}, api.OK
}

func (m *model) hear(from int, l mail) api.Errno {
	if l.kind < 1 || l.kind > 2 || l.epoch < 0 || l.epoch > 1<<30 || l.number < 0 || l.number > 1<<20 || l.kind == 1 && (op.CheckAll(l.r) != api.OK || len(bytesOf(l.r)) > 60000) {
		return api.ErrPeer
	}
	if l.epoch != m.epoch || m.place() < 0 {
		return api.ErrStale
	}
	by := -1
	if l.kind == 2 {
		by = 1
	}
	if m.next(by) < 0 || from != m.next(by) {
		return api.ErrPeer
	}
	if l.kind == 2 {
		return m.hearSure(l.number)
	}
	return m.hearDown(l)
}

func (m *model) hearSure(n int) api.Errno {
	if n > m.done {
		return api.ErrPeer
	}
	if n > m.sure {
		m.end(n)
	}
	return api.OK
}

func (m *model) hearDown(l mail) api.Errno {
	switch {
	case l.number <= m.sure:
		m.tellSure()
	case l.number == m.done+1 && m.done-m.sure >= 256:
		return api.ErrLong
	case l.number == m.done+1:
		m.do(l.r)
	}
	return api.OK
}

func (m *model) tick() {
	for n := m.sure + 1; n <= min(m.done, m.sure+8); n++ {
		if m.next(1) >= 0 {
			m.letters = append(m.letters, to(m.next(1), down(m.epoch, n, m.requests[n])))
		}
	}
}

func (m *model) load(rows []api.Row, done int) api.Errno {
	if m.place() >= 0 {
		return api.ErrRole
	}
	if done < 0 || done > 1<<20 {
		return api.ErrRange
	}
	fresh := table.New()
	if e := fresh.Take(rows); e != api.OK {
		return e
	}
	m.rows, m.sure, m.done = fresh, done, done
	clear(m.requests)
	clear(m.had)
	return api.OK
}

// drawnOp is an operation on few keys; now and then one that may not be.
func drawnOp(draw *rand.Rand) api.Op {
	key := string(rune('a' + draw.Intn(4)))
	switch draw.Intn(30) {
	case 0:
		return api.Op{Kind: draw.Intn(9) - 1, Key: key}
	case 1:
		return set(key, long(4097), 1+draw.Intn(50))
	case 2, 3, 4, 5:
		return get(key)
	case 6, 7:
		return many(key, 1+draw.Intn(3))
	case 8, 9, 10:
		return remove(key)
	case 11, 12, 13:
		return replace(key, fmt.Sprint(draw.Intn(90)), 1+draw.Intn(50), 0)
	case 14, 15, 16:
		return add(key, "v", 1+draw.Intn(9))
	}
	return set(key, fmt.Sprint(draw.Intn(90)), 1+draw.Intn(50))
}

func drawnRequest(draw *rand.Rand) api.Request {
	r := api.Request{Client: draw.Intn(3), Seq: 1 + draw.Intn(9)}
	for range 1 + max(0, draw.Intn(6)-2) {
		r.Ops = append(r.Ops, drawnOp(draw))
	}
	return r
}

func drawnOrder(draw *rand.Rand, id int) []int {
	order := draw.Perm(5)[:1+draw.Intn(4)]
	if draw.Intn(3) > 0 && !slices.Contains(order, id) {
		order[draw.Intn(len(order))] = id
	}
	return order
}

// pair is a member and its model, held against one another.
type pair struct {
	t    *testing.T
	draw *rand.Rand
	m    *chain.Member
	x    *model
}

// drawnMail is a letter of near the right epoch, of a number near those that matter, from whomever.
func (p *pair) drawnMail() (int, mail) {
	l := mail{kind: 1 + p.draw.Intn(2), epoch: p.x.epoch}
	numbers := []int{p.x.done + 1, p.x.done + 1, p.x.done + 1, p.x.done + 1, p.x.done, p.x.done + 2, p.x.sure, p.x.sure + 1, p.x.sure - 1, p.x.sure + p.draw.Intn(9), -1, 0}
	l.number = numbers[p.draw.Intn(len(numbers))]
	if l.kind == 2 && l.number > p.x.done && p.draw.Intn(4) > 0 {
		l.number = p.x.sure + p.draw.Intn(p.x.done-p.x.sure+1)
	}
	if l.kind == 1 {
		l.r = drawnRequest(p.draw)
	}
	if p.draw.Intn(20) == 0 {
		l.epoch += p.draw.Intn(5) - 2
	}
	from := p.x.next([]int{0, -1, 1}[l.kind])
	if p.draw.Intn(20) == 0 {
		from = p.draw.Intn(7) - 1
	}
	return from, l
}

// step does one drawn call of both, and answers what it came to.
func (p *pair) step() api.Errno {
	p.t.Helper()
	switch k := p.draw.Intn(60); {
	case k < 2:
		epoch, order := p.x.epoch+p.draw.Intn(3), drawnOrder(p.draw, p.x.id)
		return p.same(p.m.Config(epoch, slices.Clone(order)), p.x.config(epoch, order))
	case k < 18:
		r := drawnRequest(p.draw)
		n, e := p.m.Submit(r)
		want, wantE := p.x.submit(r)
		if n != want {
			p.t.Fatal(n, want)
		}
		return p.same(e, wantE)
	case k < 21:
		r := drawnRequest(p.draw)
		got, e := p.m.Query(r)
		want, wantE := p.x.query(r)
		if !sameReply(got, want) {
			p.t.Fatal(brief(got), brief(want))
		}
		return p.same(e, wantE)
	case k < 56:
		from, l := p.drawnMail()
		return p.same(p.m.Hear(from, l.bytes()), p.x.hear(from, l))
	case k < 58:
		p.m.Tick()
		p.x.tick()
		return api.OK
	}
	rows, done := numbered(p.draw.Intn(4)), p.draw.Intn(30)-1
	return p.same(p.m.Load(rows, done), p.x.load(rows, done))
}

func (p *pair) same(got, want api.Errno) api.Errno {
	p.t.Helper()
	if got != want {
		p.t.Fatalf("%v, not %v", got, want)
	}
	return got
}

// judge holds all that a member tells against the model.
func (p *pair) judge() {
	p.t.Helper()
	is(p.t, p.m, p.x.epoch, p.x.place(), p.x.sure, p.x.done)
	holds(p.t, p.m, p.x.rows.Rows(api.Span{})...)
	if p.draw.Intn(3) == 0 {
		sends(p.t, p.m, p.x.letters...)
		p.x.letters = nil
	}
	if p.draw.Intn(3) == 0 {
		tells(p.t, p.m, p.x.replies...)
		p.x.replies = nil
	}
}

// Promises 19.1 to 19.4: drawn calls, against the chapter's words.
func TestAgainstModel(t *testing.T) {
	seen := map[api.Errno]int{}
	for seed := range int64(300) {
		draw := rand.New(rand.NewSource(seed))
		id := draw.Intn(5)
		p := &pair{t, draw, begun(t, id), newModel(id)}
		for range 300 {
			seen[p.step()]++
			p.judge()
			if t.Failed() {
				t.Fatal(seed)
			}
		}
	}
	for _, e := range []api.Errno{api.OK, api.ErrStale, api.ErrRole, api.ErrBad, api.ErrPeer, api.ErrRange} {
		if seen[e] < 100 {
			t.Error(e, seen[e])
		}
	}
}
