package sweep_test

import (
	"math/rand"
	"slices"
	"strings"
	"testing"

	"skylark/api"
	"skylark/sweep"
)

// swept is how far a sweep came: the live places behind it, and whether all was synced, so that Free was begun.
type swept struct {
	live   []api.Place
	synced bool
}

// sweepAll goes on until something is refused: plan, copy, swing, sync, free.
func (s *store) sweepAll(live []api.Place, percent int) (x swept, e api.Errno) {
	s.t.Helper()
	files, e := sweep.Plan(s.sizes(), live, percent)
	must(s.t, e)
	moves, e := sweep.Copy(s.v, files, live)
	if e != api.OK {
		return x, e
	}
	x.live, e = sweep.Swing(live, moves)
	must(s.t, e)
	if e := s.d.Sync(); e != api.OK {
		return x, e
	}
	x.synced = true
	n, e := sweep.Free(s.v, files, x.live)
	if e == api.OK && n != len(files) {
		s.t.Fatal(n, files)
	}
	return x, e
}

// Promise 12.4: what was live is got behind a sweep as it was; files of which little was live are gone, and others are as they were.
func TestSweep(t *testing.T) {
	s := sample(t, 1000)
	values := []string{"e", "c", "g", "dd", "f"}
	x, e := s.sweepAll(s.places(values...), 99)
	must(t, e)
	s.has(x.live, values)
	s.holds("2:dd.e.f", "3:g.c")
	x, e = s.sweepAll(x.live[1:3], 1)
	must(t, e)
	s.has(x.live, values[1:3])
	s.holds("3:g.c")
}

// Promise 12.4: ahead of Free a crash leaves what was live where it was; once it is synced, it is there where it was copied to as well.
func TestCrashBetween(t *testing.T) {
	values := []string{"f", "a", "c"}
	for draw := range 30 {
		for _, synced := range []bool{false, true} {
			s := sample(t, 1000)
			live := s.places(values...)
			moves, e := sweep.Copy(s.v, []int{1, 2}, live)
			must(t, e)
			if synced {
				must(t, s.d.Sync())
			}
			s.crash(draw, draw/3)
			s.has(live, values)
			if synced {
				live, e = sweep.Swing(live, moves)
				must(t, e)
				s.has(live, values)
				s.freed([]int{1, 2}, live, 2, api.OK)
				s.crash(draw)
				s.has(live, values)
			}
		}
	}
}

// Promise 12.4: with a fuse at each call of the disk, and several draws, what was live is got behind the crash: from where it was, until all is synced, and then from where it is.
func TestCrashAnywhere(t *testing.T) {
	values := []string{"a", "f", "c", "g"}
	for fuse := range 7 {
		for draw := range 40 {
			s := sample(t, 1000)
			must(t, s.d.Fuse(fuse))
			live := s.places(values...)
			x, e := s.sweepAll(live, 90)
			if goesDown := fuse < 6; goesDown != (e == api.ErrDown) {
				t.Fatal(fuse, e)
			}
			s.crash(draw, draw*3, draw/2)
			if x.synced {
				live = x.live
			}
			s.has(live, values)
			x, e = s.sweepAll(live, 90)
			must(t, e)
			s.has(x.live, values)
			s.crash(draw)
			s.has(x.live, values)
		}
	}
}

// Promises 12.4 and W2: sweeps end: each takes away what is not live in the files that it sweeps, so sooner or later none is left to be swept; then what is not live is little.
func TestSweepsEnd(t *testing.T) {
	draw := rand.New(rand.NewSource(15))
	for range 200 {
		s := stored(t, api.MaxBytes, 1+draw.Intn(200))
		var live []api.Place
		var values []string
		for range 40 {
			value := drawnValue(draw)
			if p := s.put(value); draw.Intn(3) == 0 {
				live, values = append(live, p), append(values, value)
			}
		}
		percent := 1 + draw.Intn(100)
		for sweeps := 0; ; sweeps++ {
			files, e := sweep.Plan(s.sizes(), live, percent)
			must(t, e)
			if len(files) == 0 {
				break
			}
			if sweeps == 40 {
				t.Fatal(files)
			}
			x, e := s.sweepAll(live, percent)
			must(t, e)
			live = x.live
			s.has(live, values)
		}
		sizes := s.sizes()
		for _, size := range sizes[:len(sizes)-1] {
			if 100*liveIn(live, size.File) < percent*size.Bytes {
				t.Error(percent, size, live)
			}
		}
	}
}

func drawnValue(draw *rand.Rand) string {
	return strings.Repeat(string(rune('a'+draw.Intn(26))), draw.Intn(50))
}

// keeper has live values and their places, and sweeps while others come and go.
type keeper struct {
	*store
	draw   *rand.Rand
	live   []api.Place
	values []string
}

// add puts a value, if the disk takes it.
func (k *keeper) add() {
	value := drawnValue(k.draw)
	if p, e := k.v.Put(value); e == api.OK {
		k.live, k.values = append(k.live, p), append(k.values, value)
	} else if e != api.ErrSpace {
		k.t.Fatal(e)
	}
}

// drop lets a value go.
func (k *keeper) drop() {
	if len(k.live) > 0 {
		i := k.draw.Intn(len(k.live))
		k.live, k.values = slices.Delete(k.live, i, i+1), slices.Delete(k.values, i, i+1)
	}
}

// sweep sweeps, and lets the disk go down somewhere, or crash behind it, or neither.
func (k *keeper) sweep() {
	k.t.Helper()
	must(k.t, k.d.Sync())
	if k.draw.Intn(2) == 0 {
		must(k.t, k.d.Fuse(k.draw.Intn(15)))
	}
	x, e := k.sweepAll(k.live, 1+k.draw.Intn(100))
	if e != api.OK && e != api.ErrDown && e != api.ErrSpace {
		k.t.Fatal(e)
	}
	if e == api.ErrDown || k.draw.Intn(2) == 0 {
		k.crash(k.draw.Intn(500), k.draw.Intn(500), k.draw.Intn(500))
	} else {
		must(k.t, k.d.Fuse(1<<30))
	}
	if x.synced {
		k.live = x.live
	}
	k.has(k.live, k.values)
}

// Promise 12.4: drawn runs in which values come and go, files are swept, and disks go down and crash, and get full too.
func TestDrawnRuns(t *testing.T) {
	for seed := range int64(40) {
		draw := rand.New(rand.NewSource(seed))
		k := &keeper{store: stored(t, []int{1000, 3000, api.MaxBytes}[draw.Intn(3)], 1+draw.Intn(300)), draw: draw}
		for range 200 {
			switch draw.Intn(8) {
			case 0:
				k.sweep()
			case 1, 2, 3:
				k.drop()
			default:
				k.add()
			}
		}
		k.has(k.live, k.values)
	}
}
