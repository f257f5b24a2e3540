package brick_test

import (
	"maps"
	"math/rand"
	"slices"
	"strconv"
	"testing"

	"skylark/api"
	"skylark/brick"
	"skylark/sweep"
	"skylark/table"
)

// moment is how a brick's rows were behind one of its requests, the one with that record.
type moment struct {
	seq  int
	rows []api.Row
}

// places are the rows of a brick that have one.
type places map[api.Row]api.Place

// keep lets the places go of rows that are not there any more.
func (p places) keep(rows []api.Row) {
	for r := range p {
		if !slices.Contains(rows, r) {
			delete(p, r)
		}
	}
}

// live are the places of rows, by keys.
func (p places) live(rows []api.Row) []api.Place {
	var l []api.Place
	for _, r := range rows {
		if at, there := p[r]; there {
			l = append(l, at)
		}
	}
	return l
}

// member is a brick of a run, and what a test knows of it: a table that did the same, how it was behind each request, its places, and its last state file's.
type member struct {
	b      *brick.Brick
	alone  *table.Table
	past   []moment
	placed places
	saved  places
	upTo   int
	held   int
}

// rows are those that the brick must have.
func (m *member) rows() []api.Row {
	return m.alone.Rows(api.Span{})
}

// run is a node with bricks that share its log.
type run struct {
	*node
	draw    *rand.Rand
	members []*member
	synced  int
	down    bool
}

func begun(t *testing.T, room, most, bricks int, draw *rand.Rand) *run {
	t.Helper()
	r := &run{node: newNode(t, room, most), draw: draw, synced: 1}
	for n := range bricks {
		m := &member{b: r.brick(n), alone: table.New(), placed: places{}, saved: places{}, upTo: 1, held: 1}
		r.members = append(r.members, m)
	}
	return r
}

// took notes whether the disk went down; any other refusal but for want of room is a fault.
func (r *run) took(e api.Errno) bool {
	r.t.Helper()
	if e != api.OK && e != api.ErrDown && e != api.ErrSpace {
		r.t.Fatal(e)
	}
	r.down = r.down || e == api.ErrDown
	return e == api.OK
}

// do does a request, by the brick and alone.
func (r *run) do(n int, ops ...api.Op) {
	r.t.Helper()
	m := r.members[n]
	next := r.w.Next()
	p, e := m.b.Do(asked(ops...))
	if !r.took(e) {
		return
	}
	results, fault := m.alone.Do(ops)
	if p.Fault != fault || !slices.EqualFunc(p.Results, results, sameResult) {
		r.t.Fatal(ops, p, results, fault)
	}
	wrote := fault.Code == api.OK && results[0].Code == api.OK && slices.ContainsFunc(ops, func(x api.Op) bool { return x.Kind <= api.ODelete })
	if wrote {
		m.past = append(m.past, moment{next, m.rows()})
		m.placed.keep(m.rows())
		m.held = next + 1
	}
	if r.w.Next() != m.held && wrote {
		r.t.Fatal(r.w.Next(), next)
	}
}

func (r *run) sync() {
	r.t.Helper()
	if r.took(r.d.Sync()) {
		r.synced = r.w.Next()
	}
}

// save saves a brick's state. Rows that had a place keep it, whatever comes of it, and others get one by keys, up to what is refused; behind a Save that was taken all big ones have one.
func (r *run) save(n int) bool {
	r.t.Helper()
	m := r.members[n]
	saved := r.took(m.b.Save())
	live := m.b.Live()
	put := len(live) - len(m.placed)
	for _, row := range m.rows() {
		if _, there := m.placed[row]; len(row.Val) < 64 || !there && put == 0 {
			continue
		} else if !there {
			m.placed[row] = live[0]
			put--
		}
		if m.placed[row] != live[0] {
			r.t.Fatal(row, live[0], m.placed[row])
		}
		live = live[1:]
	}
	if len(live) > 0 {
		r.t.Fatal(live)
	}
	if saved {
		m.saved, m.upTo, m.held, r.synced = maps.Clone(m.placed), r.w.Next(), r.w.Next(), r.w.Next()
		for _, row := range m.rows() {
			if _, there := m.placed[row]; there != (len(row.Val) >= 64) {
				r.t.Fatal(row)
			}
		}
	}
	return saved
}

// check fails unless a brick tells just what the test knows of it, and its values lie where it says.
func (r *run) check(n int) {
	r.t.Helper()
	m := r.members[n]
	view{rows: m.rows(), held: m.held, live: m.placed.live(m.rows())}.is(r.t, m.b)
	for row, at := range m.placed {
		if s, e := r.v.Get(at); s != row.Val || e != api.OK {
			r.t.Fatal(n, at, e)
		}
	}
}

// crash opens all bricks behind a crash: the log has a beginning with all that was synced, and each brick has the rows that it had behind its last request that the log has.
func (r *run) crash(draws ...int) {
	r.t.Helper()
	written := r.w.Next()
	r.node.crash(draws...)
	r.down = false
	next := r.w.Next()
	if next < r.synced || next > written {
		r.t.Fatal(next, r.synced, written)
	}
	r.synced = next
	for n, m := range r.members {
		m.b = r.brick(n)
		m.held = next
		for len(m.past) > 0 && m.past[len(m.past)-1].seq >= next {
			m.past = m.past[:len(m.past)-1]
		}
		m.alone = table.New()
		if len(m.past) > 0 {
			must(r.t, m.alone.Take(m.past[len(m.past)-1].rows))
		}
		m.placed = maps.Clone(m.saved)
		for _, x := range m.past {
			if x.seq >= m.upTo {
				m.placed.keep(x.rows)
			}
		}
		r.check(n)
	}
}

// forget lets the log forget what all state files hold.
func (r *run) forget() {
	r.t.Helper()
	least := r.w.Next()
	for _, m := range r.members {
		least = min(least, m.upTo)
	}
	if least >= r.w.First() {
		_, e := r.w.Forget(least)
		r.took(e)
	}
}

// free saves all bricks, and removes the files of values that none of them has a place in.
func (r *run) free() {
	r.t.Helper()
	var live []api.Place
	for n, m := range r.members {
		if r.down || !r.save(n) {
			return
		}
		live = append(live, m.b.Live()...)
	}
	_, e := sweep.Free(r.v, r.v.Files(), live)
	r.took(e)
}

// drawnOp is one on few keys, so that many are refused, and many are done.
func drawnOp(draw *rand.Rand) api.Op {
	x := api.Op{Kind: 1 + draw.Intn(6), Key: string(rune('a' + draw.Intn(6)))}
	switch x.Kind {
	case api.OMany:
		x.Most = 1 + draw.Intn(5)
	case api.OAdd, api.OReplace, api.OSet:
		x.Stamp = 1 + draw.Intn(50)
		x.Val = big(string(rune('a'+draw.Intn(3))), []int{0, 1, 20, 63, 64, 65, 150}[draw.Intn(7)])
	}
	if x.Kind != api.OMany && x.Kind != api.OAdd && draw.Intn(5) == 0 {
		x.Test = 1 + draw.Intn(50)
	}
	return x
}

// drawnOps are those of a request; now and then a row is taken away and put in again as it was.
func (r *run) drawnOps(n int) []api.Op {
	if rows := r.members[n].rows(); len(rows) > 0 && r.draw.Intn(10) == 0 {
		row := rows[r.draw.Intn(len(rows))]
		return []api.Op{remove(row.Key), add(row.Key, row.Val, row.Stamp)}
	}
	var ops []api.Op
	for range 1 + r.draw.Intn(2)*r.draw.Intn(3) {
		ops = append(ops, drawnOp(r.draw))
	}
	return ops
}

func (r *run) step() {
	r.t.Helper()
	n := r.draw.Intn(len(r.members))
	switch r.draw.Intn(20) {
	case 0:
		r.sync()
	case 1:
		r.save(n)
	case 2:
		r.forget()
	case 3:
		r.free()
	case 4:
		must(r.t, r.d.Fuse(r.draw.Intn(25)))
	default:
		r.do(n, r.drawnOps(n)...)
	}
}

// Promises 13.1 to 13.4 and W2: drawn requests of bricks that share a log, saves, syncs, files and segments that are removed, fuses and crashes, on disks that get full too.
func TestDrawnRuns(t *testing.T) {
	for seed := range int64(80) {
		draw := rand.New(rand.NewSource(seed))
		room := []int{1500, 5000, api.MaxBytes}[draw.Intn(3)]
		r := begun(t, room, []int{1, 100, 1000, 5000}[draw.Intn(4)], 1+draw.Intn(3), draw)
		for range 300 {
			r.step()
			if r.down || draw.Intn(60) == 0 {
				r.crash(draw.Intn(1000), draw.Intn(1000), draw.Intn(1000), draw.Intn(1000))
				continue
			}
			r.check(draw.Intn(len(r.members)))
		}
		r.crash(-1, -1, -1, -1)
	}
}

// Promise 13.4: behind a crash a micro-transaction is there whole or not at all, however many bytes of the log are kept.
func TestCrashWhole(t *testing.T) {
	ops := []api.Op{set("a", "new", 2), add("b", "new", 2), remove("c"), add("d", big("d", 100), 2)}
	long := len(framed(list(3, 0, record(asked(ops...)))))
	for draw := range long + 1 {
		x := newNode(t, 5000, 1000)
		b := x.brick(0)
		done(t, b, add("a", "old", 1), add("c", "old", 1))
		must(t, x.w.Sync())
		was := b.Rows(api.Span{})
		done(t, b, ops...)
		is := b.Rows(api.Span{})
		x.crash(draw)
		if draw == long {
			hasRows(t, x.brick(0), is...)
		} else {
			hasRows(t, x.brick(0), was...)
		}
	}
}

// Promise 13.4: a crash in Save, at each of its calls of the disk and with several draws, loses no request; the brick goes on, and can be saved.
func TestCrashInSave(t *testing.T) {
	for _, most := range []int{1, 150, 5000} {
		for fuse := range 12 {
			for draw := range 40 {
				r := begun(t, 5000, most, 2, nil)
				r.do(0, add("a", big("a", 64), 1), add("b", "b", 1))
				r.save(0)
				r.do(1, add("a", big("x", 64), 1))
				r.do(0, set("a", big("a", 65), 2), add("c", big("c", 66), 2))
				r.sync()
				r.do(0, remove("b"))
				r.do(0, add("d", big("d", 67), 1))
				must(t, r.d.Fuse(fuse))
				// Three values, two syncs, one that is written, one that is renamed.
				if saved := r.save(0); saved != (fuse >= 7) {
					t.Fatal(most, fuse)
				}
				r.crash(draw, draw*3, draw*7, draw/2)
				r.do(0, set("c", big("c", 99), 9))
				r.do(1, set("c", big("c", 99), 9))
				if !r.save(0) || !r.save(1) {
					t.Fatal(most, fuse, draw)
				}
				r.check(0)
				r.check(1)
				r.crash(-1, -1, -1, -1)
			}
		}
	}
}

// Promise 13.4: a crash behind Open, or between two of them, changes nothing more.
func TestCrashTwice(t *testing.T) {
	for draw := range 60 {
		r := begun(t, 5000, 200, 2, nil)
		for i := range 6 {
			r.do(i%2, add("k"+strconv.Itoa(i), big("v", 30*i), 1))
		}
		r.crash(draw, draw*5)
		was := contents(r.d)
		r.crash(draw, draw*5)
		if !slices.Equal(contents(r.d), was) {
			t.Error(draw)
		}
	}
}
