package raft_test

import (
	"fmt"
	"math/rand"
	"testing"

	"skylark/api"
	"skylark/disk"
	"skylark/raft"
)

// post is a letter on its way.
type post struct {
	from int
	api.Letter
}

// member is a node with its disk, and how many of the entries that all agree on it took since it was opened; none, while it is down.
type member struct {
	d    *disk.Disk
	n    *raft.Node
	took int
}

// cluster is nodes that send one another just what they tell, and what is known of all of them: who led in a term, which entries any of them committed.
type cluster struct {
	t        *testing.T
	draw     *rand.Rand
	patience int
	room     int
	members  []*member
	mail     []post
	led      map[int]int
	agreed   []api.Entry
}

func newCluster(t *testing.T, seed int64) *cluster {
	t.Helper()
	draw := rand.New(rand.NewSource(seed))
	c := &cluster{t: t, draw: draw, patience: 1 + draw.Intn(5), room: []int{api.MaxBytes, api.MaxBytes, 2000}[draw.Intn(3)], led: map[int]int{}}
	nodes := 1 + draw.Intn(5)
	for id := range nodes {
		d := newDisk(t, c.room)
		c.members = append(c.members, &member{d: d, n: opened(t, id, nodes, c.patience, d)})
	}
	return c
}

// moved takes what a call of a node came to: one whose disk refused is down; no call sends anyone more than one letter.
func (c *cluster) moved(id int, e api.Errno) {
	c.t.Helper()
	m := c.members[id]
	if e == api.ErrDown || e == api.ErrSpace {
		m.n = nil
		return
	}
	must(c.t, e)
	letters := m.n.Letters()
	if len(letters) >= len(c.members) {
		c.t.Fatalf("node %d sends %s", id, brief(letters))
	}
	for _, l := range letters {
		c.mail = append(c.mail, post{id, l})
	}
	c.judge(id)
}

// judge holds a node against what is known of all of them.
func (c *cluster) judge(id int) {
	c.t.Helper()
	m := c.members[id]
	role, term, leader, committed := m.n.State()
	if role == raft.RLead {
		if other, ok := c.led[term]; ok && other != id || leader != id {
			c.t.Fatalf("%d and %d lead in the term %d", id, other, term)
		}
		c.led[term] = id
	}
	l, e := m.n.Taken(1 << 20)
	must(c.t, e)
	for _, x := range l {
		if m.took == len(c.agreed) {
			c.agreed = append(c.agreed, x)
		}
		if c.agreed[m.took] != x {
			c.t.Fatalf("node %d has %v at %d, not %v", id, x, m.took+1, c.agreed[m.took])
		}
		m.took++
	}
	if m.took != committed {
		c.t.Fatalf("node %d took %d of %d", id, m.took, committed)
	}
}

// crash lets a node come back from what its disk kept.
func (c *cluster) crash(id int) {
	c.t.Helper()
	m := c.members[id]
	must(c.t, m.d.Crash([]int{c.draw.Intn(200)}))
	n, e := raft.Open(id, len(c.members), c.patience, m.d)
	must(c.t, e)
	m.n, m.took = n, 0
}

// deliver takes a letter from its way, to be heard by its node, if that is up.
func (c *cluster) deliver(at int) {
	c.t.Helper()
	p := c.mail[at]
	c.mail = append(c.mail[:at], c.mail[at+1:]...)
	if n := c.members[p.To].n; n != nil {
		c.moved(p.To, n.Hear(p.from, p.Body))
	}
}

func (c *cluster) tick(id int) {
	c.t.Helper()
	if n := c.members[id].n; n != nil {
		c.moved(id, n.Tick())
	}
}

// propose asks a node to take data, if it leads, and answers whether it did.
func (c *cluster) propose(id int, data string) bool {
	c.t.Helper()
	n := c.members[id].n
	if n == nil {
		return false
	}
	_, e := n.Propose(data)
	if e == api.ErrRole {
		return false
	}
	c.moved(id, e)
	return e == api.OK
}

// step does one drawn act: letters come in any order, are lost and copied, nodes go down and come back.
func (c *cluster) step(mark int) {
	c.t.Helper()
	id := c.draw.Intn(len(c.members))
	switch k := c.draw.Intn(40); {
	case k < 10:
		c.tick(id)
	case k < 14:
		c.propose(id, fmt.Sprint(mark))
	case k == 14:
		c.crash(id)
	case k == 15:
		must(c.t, c.members[id].d.Fuse(c.draw.Intn(40)))
	case len(c.mail) == 0:
	case k == 16:
		at := c.draw.Intn(len(c.mail))
		c.mail = append(c.mail[:at], c.mail[at+1:]...)
	case k < 19:
		c.mail = append(c.mail, c.mail[c.draw.Intn(len(c.mail))])
	case k < 34:
		c.deliver(0)
	default:
		c.deliver(c.draw.Intn(len(c.mail)))
	}
	if len(c.mail) > 60 {
		c.mail = c.mail[30:]
	}
}

// Promise 16.5: of nodes that send one another just what they tell, whatever is lost, copied, turned about, and crashed, no two lead in one term, and all have what one has committed, as far as they have as much committed.
func TestNodesAgree(t *testing.T) {
	agreed, led := 0, 0
	for seed := range int64(400) {
		c := newCluster(t, seed)
		for mark := range 1500 {
			c.step(mark)
			for id, m := range c.members {
				if m.n == nil && c.draw.Intn(20) == 0 {
					c.crash(id)
				}
			}
		}
		agreed += len(c.agreed)
		led += len(c.led)
	}
	if agreed < 10000 || led < 3000 {
		t.Error(agreed, led)
	}
}

// Promise 16.5: what was agreed stays so when all went down at once; and when nothing more is lost, one leads, and all take what it is proposed.
func TestNodesComeBack(t *testing.T) {
	for seed := range int64(150) {
		c := newCluster(t, seed)
		if c.room < api.MaxBytes {
			continue
		}
		for mark := range 600 {
			c.step(mark)
		}
		c.mail = nil
		for id := range c.members {
			c.crash(id)
		}
		proposed := false
		for range 40 * (c.patience + len(c.members)) {
			for id := range c.members {
				c.tick(id)
				proposed = proposed || c.propose(id, "last")
			}
			for range 3000 {
				if len(c.mail) > 0 {
					c.deliver(0)
				}
			}
		}
		many := len(c.agreed)
		if !proposed || many == 0 || len(c.mail) > 0 {
			t.Fatal(seed, proposed, many, len(c.mail))
		}
		for id, m := range c.members {
			if m.took != many {
				t.Fatal(seed, id, m.took, many)
			}
		}
	}
}
