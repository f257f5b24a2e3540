package ballot_test

import (
	"fmt"
	"math/rand"
	"slices"
	"testing"

	"skylark/api"
	"skylark/ballot"
	"skylark/disk"
)

// The chapter's example.
func TestExample(t *testing.T) {
	d := newDisk(t, 2000)
	b := opened(t, d, 3)
	told(t, b.Turn(1), api.OK)
	told(t, b.Cast(2), api.OK)
	appends(t, b, "a", 1, api.OK)
	must(t, d.Crash(nil))
	b = opened(t, d, 3)
	of(1, 2, entry(1, "a")).is(t, b)
	told(t, b.Cast(0), api.ErrThere)
	told(t, b.Turn(1), api.ErrStale)
}

// Promise 15.4: of a call that was under way a crash leaves just what its whole frames say, as many as were drawn.
func TestCrashWithinCall(t *testing.T) {
	a, b, c, x, y := entry(1, "a"), entry(3, "b"), entry(3, "c"), entry(4, "x"), entry(5, "yy")
	for i, call := range []struct {
		do     func(r *ballot.Ballot) api.Errno
		frames []string
		views  []view
	}{
		{func(r *ballot.Ballot) api.Errno { return r.Turn(7) }, []string{stand(7, -1)}, []view{of(6, -1, a, b, c), of(7, -1, a, b, c)}},
		{func(r *ballot.Ballot) api.Errno { return r.Cast(2) }, []string{stand(6, 2)}, []view{of(6, -1, a, b, c), of(6, 2, a, b, c)}},
		{func(r *ballot.Ballot) api.Errno { _, e := r.Append("d"); return e }, []string{put(6, "d")}, []view{of(6, -1, a, b, c), of(6, -1, a, b, c, entry(6, "d"))}},
		{func(r *ballot.Ballot) api.Errno { _, e := r.Merge(3, 3, []api.Entry{x, y}); return e }, []string{puts(x), puts(y)}, []view{of(6, -1, a, b, c), of(6, -1, a, b, c, x), of(6, -1, a, b, c, x, y)}},
		{func(r *ballot.Ballot) api.Errno { _, e := r.Merge(1, 1, []api.Entry{x, y}); return e }, []string{gone(2), puts(x), puts(y)}, []view{of(6, -1, a, b, c), of(6, -1, a), of(6, -1, a, x), of(6, -1, a, x, y)}},
	} {
		whole := ""
		for _, frame := range call.frames {
			whole += frame
		}
		for draw := range len(whole) + 1 {
			begun := stand(6, -1) + puts(a, b, c)
			d := with(t, begun)
			r := opened(t, d, 3)
			must(t, d.Fuse(1))
			told(t, call.do(r), api.ErrDown)
			must(t, d.Crash([]int{draw}))
			kept, end := 0, 0
			for kept < len(call.frames) && end+len(call.frames[kept]) <= draw {
				end += len(call.frames[kept])
				kept++
			}
			call.views[kept].is(t, opened(t, d, 3))
			onDisk(t, d, "ballot", begun+whole[:end])
			must(t, d.Crash(nil))
			call.views[kept].is(t, opened(t, d, 3))
			if t.Failed() {
				t.Fatal(i, draw)
			}
		}
	}
}

// Promise 15.4: a crash while a ballot is opened loses nothing more.
func TestCrashInOpen(t *testing.T) {
	frames, views := sample()
	whole := ""
	for i, frame := range frames {
		for n := range len(frame) {
			for fuse := range 2 {
				d := with(t, whole+frame[:n])
				must(t, d.Fuse(fuse))
				ballot.Open(d, 3)
				must(t, d.Crash(nil))
				views[i].is(t, opened(t, d, 3))
			}
		}
		whole += frame
	}
}

// run is a ballot with what it must tell, by the chapters' words, and, behind a call that the disk refused, what it may tell behind a crash.
type run struct {
	t     *testing.T
	d     *disk.Disk
	b     *ballot.Ballot
	draw  *rand.Rand
	nodes int
	view
	may []view
}

// settled takes what a call came to, unless the disk refused it.
func (r *run) settled(got, want api.Errno, ways ...view) {
	r.t.Helper()
	if want == api.OK && (got == api.ErrDown || got == api.ErrSpace) {
		r.may = append([]view{r.view}, ways...)
		if got == api.ErrSpace {
			r.may = r.may[:1]
		}
		return
	}
	if got != want {
		r.t.Fatal(got, want)
	}
	if want == api.OK {
		r.view = ways[len(ways)-1]
	}
}

func (r *run) turn(term int) {
	r.t.Helper()
	want := api.OK
	if term < 1 {
		want = api.ErrRange
	} else if term <= r.term {
		want = api.ErrStale
	}
	r.settled(r.b.Turn(term), want, of(term, -1, r.entries...))
}

func (r *run) cast(who int) {
	r.t.Helper()
	want := api.OK
	if who < 0 || who >= r.nodes {
		want = api.ErrRange
	} else if r.term == 0 {
		want = api.ErrStale
	} else if r.vote != -1 && r.vote != who {
		want = api.ErrThere
	}
	r.settled(r.b.Cast(who), want, of(r.term, who, r.entries...))
}

func (r *run) append(data string) {
	r.t.Helper()
	want := api.OK
	if r.term == 0 {
		want = api.ErrRange
	} else if len(data) > 4096 {
		want = api.ErrLong
	}
	n, e := r.b.Append(data)
	if e == api.OK && n != len(r.entries)+1 || e != api.OK && n != 0 {
		r.t.Fatal(n, e)
	}
	r.settled(e, want, of(r.term, r.vote, append(slices.Clone(r.entries), entry(r.term, data))...))
}

// judged is what Merge must answer, if the disk takes all.
func (r *run) judged(prev, term int, entries []api.Entry) api.Errno {
	if prev < 0 || prev > len(r.entries) {
		return api.ErrIndex
	}
	if prev == 0 && term != 0 || prev > 0 && r.entries[prev-1].Term != term {
		return api.ErrShape
	}
	if slices.ContainsFunc(entries, func(e api.Entry) bool { return e.Term < 1 }) {
		return api.ErrRange
	}
	least := term
	for _, e := range entries {
		if e.Term < least {
			return api.ErrStale
		}
		least = e.Term
	}
	if least > r.term && len(entries) > 0 {
		return api.ErrStale
	}
	return api.OK
}

// ways are what Merge makes of the ballot, step by step.
func (r *run) ways(prev int, entries []api.Entry) []view {
	log := slices.Clone(r.entries)
	ways := []view{of(r.term, r.vote, log...)}
	for i, e := range entries {
		n := prev + i
		if n < len(log) && log[n].Term == e.Term {
			continue
		}
		if n < len(log) {
			log = log[:n]
			ways = append(ways, of(r.term, r.vote, slices.Clone(log)...))
		}
		log = append(log, e)
		ways = append(ways, of(r.term, r.vote, slices.Clone(log)...))
	}
	return ways
}

func (r *run) merge(prev, term int, entries []api.Entry) {
	r.t.Helper()
	want := r.judged(prev, term, entries)
	var ways []view
	if want == api.OK {
		ways = r.ways(prev, entries)
	}
	n, e := r.b.Merge(prev, term, entries)
	if e == api.OK && n != prev+len(entries) || e != api.OK && n != 0 {
		r.t.Fatal(n, e)
	}
	r.settled(e, want, ways...)
}

// drawnMerge merges drawn entries, mostly such as may be, behind a drawn number.
func (r *run) drawnMerge(mark int) {
	r.t.Helper()
	prev := r.draw.Intn(len(r.entries)+3) - 1
	term := 0
	if prev > 0 && prev <= len(r.entries) {
		term = r.entries[prev-1].Term
	}
	if r.draw.Intn(12) == 0 {
		term++
	}
	var entries []api.Entry
	at := term + r.draw.Intn(3) - r.draw.Intn(15)/14
	for i := range r.draw.Intn(5) {
		entries = append(entries, entry(at, fmt.Sprint(mark, "/", i)))
		at += r.draw.Intn(4)/3 - r.draw.Intn(30)/29
	}
	r.merge(prev, term, entries)
}

// step does one drawn call.
func (r *run) step(mark int) {
	r.t.Helper()
	switch r.draw.Intn(10) {
	case 0, 1:
		r.turn(r.term + r.draw.Intn(5) - 1)
	case 2:
		r.cast(r.draw.Intn(r.nodes+2) - 1)
	case 3, 4, 5:
		r.append(fmt.Sprint(mark))
	case 6:
		r.append(long(4090 + r.draw.Intn(8)))
	case 7:
		must(r.t, r.d.Fuse(r.draw.Intn(12)))
	default:
		r.drawnMerge(mark)
	}
}

// crash opens the ballot behind a crash, and fails unless it tells what was told, or what a call under way may have left.
func (r *run) crash() {
	r.t.Helper()
	must(r.t, r.d.Crash([]int{r.draw.Intn(1000)}))
	r.b = opened(r.t, r.d, r.nodes)
	got := seen(r.t, r.b)
	if r.may == nil {
		r.may = []view{r.view}
	}
	if !slices.ContainsFunc(r.may, got.same) {
		r.t.Fatal(got, r.may)
	}
	r.view, r.may = got, nil
	must(r.t, r.d.Crash(nil))
	got.is(r.t, opened(r.t, r.d, r.nodes))
}

// Promises 15.2 to 15.4: drawn calls, fuses and crashes, on disks that get full too: a ballot tells what the chapter says, and forgets nothing of it.
func TestDrawnRuns(t *testing.T) {
	for seed := range int64(300) {
		draw := rand.New(rand.NewSource(seed))
		r := &run{t: t, d: newDisk(t, []int{500, 5000, api.MaxBytes}[draw.Intn(3)]), draw: draw, nodes: 1 + draw.Intn(5), view: of(0, -1)}
		r.b = opened(t, r.d, r.nodes)
		for mark := range 150 {
			r.step(mark)
			r.is(t, r.b)
			if r.may != nil || draw.Intn(30) == 0 {
				r.crash()
			}
			if t.Failed() {
				t.Fatal(seed, mark)
			}
		}
	}
}
