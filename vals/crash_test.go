package vals_test

import (
	"math/rand"
	"slices"
	"strings"
	"testing"

	"skylark/api"
	"skylark/disk"
	"skylark/vals"
)

// file is one of a run: what was put into it, and how many of these were synced.
type file struct {
	values []string
	synced int
}

// size is how many bytes a file's values have with their frames.
func (f file) size() int {
	size := 0
	for _, s := range f.values {
		size += len(s) + 8
	}
	return size
}

// run is values as the tests see them, and the greatest number since they were opened.
type run struct {
	t        *testing.T
	d        *disk.Disk
	v        *vals.Vals
	most     int
	files    map[int]file
	greatest int
	down     bool
}

func begun(t *testing.T, most int) *run {
	t.Helper()
	d := newDisk(t)
	return &run{t: t, d: d, v: opened(t, d, most), most: most, files: map[int]file{}}
}

// numbers are those of the files that are there, rising.
func (r *run) numbers() []int {
	var l []int
	for n := range r.files {
		l = append(l, n)
	}
	slices.Sort(l)
	return l
}

// took notes whether the disk went down; any other refusal but for want of room is a fault.
func (r *run) took(e api.Errno) bool {
	r.t.Helper()
	if e != api.OK && e != api.ErrDown && e != api.ErrSpace {
		r.t.Fatal(e)
	}
	r.down = r.down || e == api.ErrDown
	return e == api.OK
}

// next is the place that a value must get.
func (r *run) next(s string) api.Place {
	if l := r.numbers(); len(l) > 0 {
		last := l[len(l)-1]
		if size := r.files[last].size(); size < r.most {
			return api.Place{File: last, At: size, Long: len(s)}
		}
	}
	return api.Place{File: r.greatest + 1, Long: len(s)}
}

func (r *run) put(s string) {
	r.t.Helper()
	want := r.next(s)
	p, e := r.v.Put(s)
	if !r.took(e) {
		want = api.Place{}
	}
	if p != want {
		r.t.Fatal(p, e, want)
	}
	if e == api.OK {
		f := r.files[p.File]
		f.values = append(f.values, strings.Clone(s))
		r.files[p.File] = f
		r.greatest = max(r.greatest, p.File)
	}
}

func (r *run) sync() {
	r.t.Helper()
	if r.took(r.d.Sync()) {
		for n, f := range r.files {
			r.files[n] = file{f.values, len(f.values)}
		}
	}
}

func (r *run) remove(n int) {
	r.t.Helper()
	if r.took(r.v.Remove(n)) {
		delete(r.files, n)
	}
}

// check fails unless the values tell just what the run has.
func (r *run) check() {
	r.t.Helper()
	var all []content
	for _, n := range r.numbers() {
		all = append(all, content{n, r.files[n].values})
	}
	holds(r.t, r.v, all...)
}

// crash opens the values behind a crash, and fails unless each file has a beginning of its values, with all that were synced.
func (r *run) crash(draws []int) {
	r.t.Helper()
	must(r.t, r.d.Crash(draws))
	r.v = opened(r.t, r.d, r.most)
	r.down = false
	r.greatest = 0
	for _, n := range r.numbers() {
		l, e := r.v.Places(n)
		must(r.t, e)
		f := r.files[n]
		if len(l) < f.synced || len(l) > len(f.values) {
			r.t.Fatal(n, len(l), f.synced, len(f.values))
		}
		r.files[n] = file{f.values[:len(l)], len(l)}
		r.greatest = n
	}
	r.check()
	seen(r.t, r.v).is(r.t, opened(r.t, r.d, r.most))
	must(r.t, r.d.Crash(draws))
	seen(r.t, r.v).is(r.t, opened(r.t, r.d, r.most))
}

// Promise 11.4: a crash at each place of a run, with several numbers of bytes drawn, leaves beginnings, and the values go on from there.
func TestCrashAnywhere(t *testing.T) {
	for _, most := range []int{1, 15, 30, api.MaxFrame} {
		for fuse := range 10 {
			for draw := range 30 {
				r := begun(t, most)
				must(t, r.d.Fuse(fuse))
				for i, s := range []string{"a", "bb", "", "dddd", "e", "f"} {
					r.put(s)
					if i == 2 && !r.down {
						r.sync()
					}
					if i == 4 && !r.down {
						r.remove(1)
					}
					if r.down {
						break
					}
				}
				r.crash([]int{draw, draw * 7, draw / 2})
				r.put("more")
				r.sync()
				r.crash(nil)
			}
		}
	}
}

// Promise 11.4: what was synced is there whole, and of the rest just as many values as were drawn whole.
func TestCrashKeepsWholeValues(t *testing.T) {
	rest := []string{"ccc", "", "ddddd"}
	for draw := range len(lines(rest...)) + 1 {
		d := newDisk(t)
		v := opened(t, d, api.MaxFrame)
		placed(t, v, "a", 1, 0)
		placed(t, v, "bb", 1, 9)
		must(t, d.Sync())
		for i, s := range rest {
			placed(t, v, s, 1, 19+len(lines(rest[:i]...)))
		}
		must(t, d.Crash([]int{draw}))
		kept := 0
		for kept < len(rest) && len(lines(rest[:kept+1]...)) <= draw {
			kept++
		}
		holds(t, opened(t, d, api.MaxFrame), content{1, append([]string{"a", "bb"}, rest[:kept]...)})
	}
}

// Promise 11.4: files lose what was not synced each for itself: a later one may have all where an earlier one has nothing.
func TestCrashOfEachFile(t *testing.T) {
	d := newDisk(t)
	v := opened(t, d, 10)
	for i, s := range []string{"a", "b", "c", "d", "e"} {
		placed(t, v, s, i/2+1, i%2*9)
	}
	must(t, d.Crash([]int{8, 18, 5}))
	v = opened(t, d, 10)
	holds(t, v, content{1, nil}, content{2, []string{"c", "d"}}, content{3, nil})
	placed(t, v, "f", 3, 0)
}

// Promise 11.4: a crash within Open, at each of its calls, loses nothing more.
func TestCrashInOpen(t *testing.T) {
	for n := range len(framed("torn")) {
		for fuse := range 3 {
			d := with(t, "val.1", lines("a", "b")+framed("torn")[:n], "val.2", framed("torn")[:n], "val.10", framed("c")+"zzzzzzzz")
			must(t, d.Fuse(fuse))
			vals.Open(d, 1)
			must(t, d.Crash(nil))
			holds(t, opened(t, d, 1), content{1, []string{"a", "b"}}, content{2, nil}, content{10, []string{"c"}})
		}
	}
}

// drawnValue is mostly short, so that many fit, and now and then as long as may be.
func drawnValue(draw *rand.Rand) string {
	n := draw.Intn(40)
	if draw.Intn(50) == 0 {
		n = draw.Intn(api.MaxFrame + 1)
	}
	b := make([]byte, n)
	draw.Read(b)
	return string(b)
}

// step does one drawn call, on the values or on another file of their disk.
func (r *run) step(draw *rand.Rand) {
	switch draw.Intn(12) {
	case 0:
		r.sync()
	case 1:
		if l := r.numbers(); len(l) > 0 {
			r.remove(l[draw.Intn(len(l))])
		}
	case 2:
		r.took(r.d.Append("aaa", "other"))
	case 3:
		r.took(r.d.Append("zzz", ""))
	case 4:
		must(r.t, r.d.Fuse(draw.Intn(20)))
	default:
		r.put(drawnValue(draw))
	}
}

// Promises 11.1 to 11.4: drawn calls, fuses and crashes, on disks that get full too: what is put is got until its file is removed.
func TestDrawnRuns(t *testing.T) {
	for seed := range int64(60) {
		draw := rand.New(rand.NewSource(seed))
		r := begun(t, []int{1, 30, 100, 1000, api.MaxFrame}[draw.Intn(5)])
		for i := range 300 {
			r.step(draw)
			if r.down || draw.Intn(60) == 0 {
				r.crash([]int{draw.Intn(1000), draw.Intn(1000), draw.Intn(1000)})
			}
			if i%20 == 0 {
				r.check()
			}
		}
		r.check()
	}
}
