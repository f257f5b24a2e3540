package chain_test

import (
	"fmt"
	"math/rand"
	"slices"
	"testing"

	"skylark/api"
	"skylark/chain"
	"skylark/table"
)

// post is a letter on its way.
type post struct {
	from int
	api.Letter
}

// chained are members that send one another just what they tell, an order that changes as they go down and come back, and what is known of all: the requests in their order, and how many of them were told.
type chained struct {
	t       *testing.T
	draw    *rand.Rand
	epoch   int
	order   []int
	members map[int]*chain.Member
	mail    []post
	come    []api.Request
	told    int
}

func newChained(t *testing.T, seed int64) *chained {
	t.Helper()
	draw := rand.New(rand.NewSource(seed))
	c := &chained{t: t, draw: draw, members: map[int]*chain.Member{}}
	for id := range 1 + draw.Intn(5) {
		c.members[id] = begun(t, id)
		c.order = append(c.order, id)
	}
	c.configure()
	return c
}

// configure tells all in the order that it is another one.
func (c *chained) configure() {
	c.t.Helper()
	c.epoch++
	for _, id := range c.order {
		must(c.t, c.members[id].Config(c.epoch, c.order))
	}
	for _, id := range c.order {
		c.collect(id)
	}
}

// state answers how far a member is sure, and has done.
func (c *chained) state(id int) (int, int) {
	_, _, sure, done := c.members[id].State()
	return sure, done
}

// collect takes what a member sends and tells: replies come of the tail, each is what one table tells that does all in order.
func (c *chained) collect(id int) {
	c.t.Helper()
	for _, l := range c.members[id].Letters() {
		c.mail = append(c.mail, post{id, l})
	}
	replies := c.members[id].Replies()
	if len(replies) == 0 {
		return
	}
	sure, _ := c.state(id)
	if c.order[len(c.order)-1] != id || sure > len(c.come) {
		c.t.Fatal(id, c.order, sure, len(c.come))
	}
	one := table.New()
	for i, r := range c.come[:sure] {
		results, f := one.Do(r.Ops)
		want := api.Reply{Client: r.Client, Seq: r.Seq, Results: results, Fault: f}
		if at := i - (sure - len(replies)); at >= 0 && !sameReply(replies[at], want) {
			c.t.Fatalf("%d: %s, not %s", i+1, brief(replies[at]), brief(want))
		}
	}
	c.told = max(c.told, sure)
}

func (c *chained) submit() {
	c.t.Helper()
	r := drawnRequest(c.draw)
	n, e := c.members[c.order[0]].Submit(r)
	if e != api.OK {
		return
	}
	c.come = append(c.come, r)
	if n != len(c.come) {
		c.t.Fatal(n, len(c.come))
	}
	c.collect(c.order[0])
}

// deliver takes a letter from its way, to be heard by its member. No letter that a member of this epoch sent is refused, unless too much is under way.
func (c *chained) deliver(at int) {
	c.t.Helper()
	p := c.mail[at]
	c.mail = slices.Delete(c.mail, at, at+1)
	m, ok := c.members[p.To]
	if !ok {
		return
	}
	if e := m.Hear(p.from, p.Body); e != api.OK && e != api.ErrStale && e != api.ErrLong {
		c.t.Fatal(p, e)
	}
	c.collect(p.To)
}

// goDown takes a member out of the order; what the head alone had is lost.
func (c *chained) goDown(at int) {
	c.t.Helper()
	if len(c.order) == 1 {
		return
	}
	id := c.order[at]
	delete(c.members, id)
	c.order = slices.Delete(slices.Clone(c.order), at, at+1)
	c.mail = slices.DeleteFunc(c.mail, func(p post) bool { return p.from == id || p.To == id })
	_, done := c.state(c.order[0])
	if done < c.told {
		c.t.Fatal(done, c.told)
	}
	c.come = c.come[:done]
	c.configure()
}

// comeBack lets one that is down be the last of the order, with what the tail has.
func (c *chained) comeBack() {
	c.t.Helper()
	for id := range 5 {
		if _, up := c.members[id]; up {
			continue
		}
		last := c.order[len(c.order)-1]
		_, done := c.state(last)
		m := begun(c.t, id)
		must(c.t, m.Load(c.members[last].Rows(api.Span{}), done))
		c.members[id] = m
		c.order = append(slices.Clone(c.order), id)
		c.configure()
		return
	}
}

func (c *chained) step() {
	c.t.Helper()
	at := c.draw.Intn(len(c.order))
	switch k := c.draw.Intn(200); {
	case k < 2:
		c.goDown(at)
	case k == 2:
		c.comeBack()
	case k < 50:
		c.submit()
	case k < 70:
		c.members[c.order[at]].Tick()
		c.collect(c.order[at])
	case len(c.mail) == 0:
	case k < 80:
		c.mail = slices.Delete(c.mail, 0, 1)
	case k < 90:
		c.mail = append(c.mail, c.mail[c.draw.Intn(len(c.mail))])
	case k < 170:
		c.deliver(0)
	default:
		c.deliver(c.draw.Intn(len(c.mail)))
	}
	if len(c.mail) > 80 {
		c.mail = c.mail[40:]
	}
}

// judge holds what members have against the requests in their order, and against one another.
func (c *chained) judge() {
	c.t.Helper()
	ahead := len(c.come)
	for i, id := range c.order {
		sure, done := c.state(id)
		if done > ahead || sure > done || i == 0 && done != ahead {
			c.t.Fatal(id, sure, done, ahead)
		}
		for _, other := range c.order[i:] {
			if _, has := c.state(other); has < sure {
				c.t.Fatal(id, sure, other, has)
			}
		}
		ahead = done
	}
}

// judgeRows holds each member's rows against one table that does a beginning of what the head has done.
func (c *chained) judgeRows() {
	c.t.Helper()
	one, at := table.New(), 0
	for _, id := range slices.Backward(c.order) {
		for _, done := c.state(id); at < done; at++ {
			one.Do(c.come[at].Ops)
		}
		holds(c.t, c.members[id], one.Rows(api.Span{})...)
	}
}

// Promise 19.5: each member has done a beginning of what the one ahead has, in the same order; what one is sure of all behind it have; replies are those of one table: whatever is lost, copied, turned about, and whoever goes down and comes back.
func TestEachHasABeginning(t *testing.T) {
	told, epochs := 0, 0
	for seed := range int64(200) {
		c := newChained(t, seed)
		for i := range 700 {
			c.step()
			c.judge()
			if i%10 == 0 {
				c.judgeRows()
			}
			if t.Failed() {
				t.Fatal(seed)
			}
		}
		told += c.told
		epochs += c.epoch
	}
	if told < 5000 || epochs < 1000 {
		t.Error(told, epochs)
	}
}

// Promise 19.5: when nothing is lost any more, ticks bring all that is under way to its end.
func TestAllComesToItsEnd(t *testing.T) {
	for seed := range int64(100) {
		c := newChained(t, seed)
		for range 400 {
			c.step()
		}
		c.mail = nil
		for range len(c.come) + 20 {
			for _, id := range c.order {
				c.members[id].Tick()
				c.collect(id)
			}
			for len(c.mail) > 0 {
				c.deliver(0)
			}
		}
		for _, id := range c.order {
			if sure, done := c.state(id); sure != len(c.come) || done != len(c.come) {
				t.Fatal(seed, id, sure, done, len(c.come))
			}
		}
		c.judgeRows()
	}
}

// Promise P1: no call panics, whatever it is given, wherever the member stands.
func TestNoCallPanics(t *testing.T) {
	odd := []int{-1 << 63, -1, 0, 1, 2, 5, 8, 15, 16, 255, 256, 1 << 20, 1<<20 + 1, 1 << 30, 1<<30 + 1, 1<<63 - 1}
	for seed := range int64(200) {
		draw := rand.New(rand.NewSource(seed))
		pick := func() int { return odd[draw.Intn(len(odd))] }
		m := begun(t, draw.Intn(16))
		for i := range 100 {
			switch draw.Intn(9) {
			case 0:
				m.Config(i, []int{pick(), draw.Intn(16), pick()}[:draw.Intn(4)])
			case 1:
				m.Config(pick(), make([]int, draw.Intn(10)))
			case 2:
				m.Submit(api.Request{Client: pick(), Seq: pick(), Ops: make([]api.Op, draw.Intn(3))})
			case 3:
				m.Submit(drawnRequest(draw))
			case 4:
				m.Query(api.Request{Client: 1, Seq: pick(), Ops: []api.Op{{Kind: pick(), Key: long(draw.Intn(70)), Stamp: pick(), Test: pick(), Most: pick()}}})
			case 5:
				_, at, sure, done := m.State()
				m.Hear(at+draw.Intn(3), list(1+draw.Intn(2), i, []int{pick(), sure, done, done + 1}[draw.Intn(4)], bytesOf(drawnRequest(draw))))
			case 6:
				m.Hear(pick(), list(1+draw.Intn(2), pick(), pick(), fmt.Sprint(pick()))[draw.Intn(5):])
			case 7:
				m.Load([]api.Row{{Key: long(draw.Intn(70)), Stamp: pick()}}[:draw.Intn(2)], pick())
			case 8:
				m.Tick()
				m.Letters()
				m.Replies()
				m.Rows(api.Span{From: long(draw.Intn(3)), To: long(draw.Intn(3))})
			}
		}
	}
}
