package wal_test

import (
	"math/rand"
	"slices"
	"strings"
	"testing"

	"skylark/api"
	"skylark/disk"
	"skylark/wal"
)

// run is a log as the tests see it: what was appended (from the number 1 on), how many of these were synced, and which number was the first that was not forgotten.
type run struct {
	t      *testing.T
	d      *disk.Disk
	w      *wal.Wal
	most   int
	all    []api.Record
	synced int
	first  int
	down   bool
}

func begun(t *testing.T, most int) *run {
	t.Helper()
	d := newDisk(t)
	return &run{t: t, d: d, w: opened(t, d, most), most: most, first: 1}
}

// took notes whether the disk went down; any other refusal but for want of room is a fault.
func (r *run) took(e api.Errno) bool {
	r.t.Helper()
	if e != api.OK && e != api.ErrDown && e != api.ErrSpace {
		r.t.Fatal(e)
	}
	r.down = r.down || e == api.ErrDown
	return e == api.OK
}

func (r *run) append(brick int, body string) {
	r.t.Helper()
	was := r.w.Segments()
	n, e := r.w.Append(brick, body)
	if !r.took(e) {
		return
	}
	if n != len(r.all)+1 {
		r.t.Fatal(n, len(r.all))
	}
	// A new segment says that all ahead of it was synced.
	if len(was) > 0 && len(r.w.Segments()) > len(was) {
		r.synced = len(r.all)
	}
	r.all = append(r.all, api.Record{Seq: n, Brick: brick, Body: strings.Clone(body)})
}

func (r *run) sync() {
	r.t.Helper()
	if r.took(r.w.Sync()) {
		r.synced = len(r.all)
	}
}

func (r *run) forget(seq int) {
	r.t.Helper()
	_, e := r.w.Forget(seq)
	r.took(e)
	// What is gone is gone, be the call refused on the way or not.
	r.first = r.w.First()
}

// crash opens the log behind a crash, and fails unless it has a beginning of what was appended, with all that was synced, from the first number on that was not forgotten.
func (r *run) crash(draws []int) {
	r.t.Helper()
	must(r.t, r.d.Crash(draws))
	r.w = opened(r.t, r.d, r.most)
	r.down = false
	l, e := r.w.Read(r.w.First(), 1<<20)
	must(r.t, e)
	if r.w.First() != r.first || r.w.Next() != r.first+len(l) || r.w.Next() <= r.synced || r.w.Next() > len(r.all)+1 {
		r.t.Fatalf("%d to %d: first %d, %d synced of %d", r.w.First(), r.w.Next(), r.first, r.synced, len(r.all))
	}
	if !slices.Equal(l, r.all[r.first-1:r.w.Next()-1]) {
		r.t.Fatal(l, r.all)
	}
	r.all = r.all[:r.w.Next()-1]
	r.synced = len(r.all)
	seen(r.t, r.w).is(r.t, opened(r.t, r.d, r.most))
	must(r.t, r.d.Crash(draws))
	seen(r.t, r.w).is(r.t, opened(r.t, r.d, r.most))
}

// Promise 10.4: a crash at each place of a run, with each number of bytes drawn, leaves a beginning, and the log goes on from there.
func TestCrashAnywhere(t *testing.T) {
	for _, most := range []int{1, 20, 40, api.MaxFrame} {
		for fuse := range 16 {
			for draw := range 30 {
				r := begun(t, most)
				must(t, r.d.Fuse(fuse))
				for i, body := range []string{"a", "bb", "", "dddd", "e", "f"} {
					r.append(i, body)
					if i == 2 && !r.down {
						r.sync()
					}
					if i == 4 && !r.down {
						r.forget(4)
					}
					if r.down {
						break
					}
				}
				r.crash([]int{draw})
				r.append(9, "more")
				r.sync()
				r.crash(nil)
			}
		}
	}
}

// Promise 10.4: what was synced is there whole, and of the rest just as many records as were drawn whole.
func TestCrashKeepsWholeRecords(t *testing.T) {
	tail := lines(recs(3, 6)...)
	for draw := range len(tail) + 1 {
		d := newDisk(t)
		w := opened(t, d, api.MaxFrame)
		appended(t, w, rec(1))
		appended(t, w, rec(2))
		must(t, w.Sync())
		for seq := 3; seq < 6; seq++ {
			appended(t, w, rec(seq))
		}
		must(t, d.Crash([]int{draw}))
		kept := 3
		for kept < 6 && len(lines(recs(3, kept+1)...)) <= draw {
			kept++
		}
		holds(t, opened(t, d, api.MaxFrame), []int{1}, recs(1, kept)...)
	}
}

// Promise 10.4: numbers that were forgotten do not come again, whether what follows them is lost or not, and whether or not the disk goes down while it is opened.
func TestForgottenStay(t *testing.T) {
	for _, draw := range []int{0, 1, 5, 16, 17, 99} {
		for fuse := range 3 {
			d := newDisk(t)
			w := opened(t, d, 1)
			for seq := 1; seq < 6; seq++ {
				appended(t, w, rec(seq))
			}
			if n, e := w.Forget(6); n != 4 || e != api.OK || w.First() != 5 {
				t.Fatal(n, e, w.First())
			}
			must(t, d.Crash([]int{draw}))
			must(t, d.Fuse(fuse))
			wal.Open(d, 1)
			must(t, d.Crash(nil))
			w = opened(t, d, 1)
			if w.First() != 5 || w.Next() < 5 || !slices.Equal(w.Segments(), []int{5}) {
				t.Error(draw, w.First(), w.Next(), w.Segments())
			}
			appended(t, w, rec(w.Next()))
		}
	}
}

// Promise 10.4: a crash within Open, at each of its calls, loses nothing more.
func TestCrashInOpen(t *testing.T) {
	for n := range len(line(rec(3))) {
		for fuse := range 3 {
			d := with(t, "log.1", lines(recs(1, 3)...), "log.3", line(rec(3))[:n])
			must(t, d.Fuse(fuse))
			wal.Open(d, 1)
			must(t, d.Crash(nil))
			holds(t, opened(t, d, 1), []int{1}, recs(1, 3)...)
		}
	}
}

// drawnBody is mostly short, so that many records fit, and now and then as long as may be.
func drawnBody(r *rand.Rand) string {
	n := r.Intn(40)
	if r.Intn(50) == 0 {
		n = r.Intn(60001)
	}
	b := make([]byte, n)
	r.Read(b)
	return string(b)
}

// step does one drawn call, on the log or on another file of its disk.
func (r *run) step(draw *rand.Rand) {
	switch draw.Intn(12) {
	case 0:
		r.sync()
	case 1:
		r.forget(r.w.First() + draw.Intn(r.w.Next()-r.w.First()+1))
	case 2:
		r.took(r.d.Append("aaa", "other"))
	case 3:
		r.took(r.d.Append("zzz", ""))
	case 4:
		must(r.t, r.d.Fuse(draw.Intn(20)))
	default:
		r.append(draw.Intn(api.MaxNodes), drawnBody(draw))
	}
}

// Promises 10.2 to 10.4: drawn calls, fuses and crashes, on disks that get full too.
func TestDrawnRuns(t *testing.T) {
	for seed := range int64(100) {
		draw := rand.New(rand.NewSource(seed))
		r := begun(t, []int{1, 30, 100, 1000, api.MaxFrame}[draw.Intn(5)])
		for range 300 {
			r.step(draw)
			if r.down || draw.Intn(60) == 0 {
				r.crash([]int{draw.Intn(1000), draw.Intn(1000), draw.Intn(1000)})
			}
			if l, e := r.w.Read(r.first, 1<<20); e != api.OK || !slices.Equal(l, r.all[r.first-1:]) {
				t.Fatal(seed, len(l), e)
			}
		}
	}
}
