package disk_test

import (
	"math/rand"
	"slices"
	"strings"
	"testing"

	"skylark/api"
	"skylark/disk"
)

// counted are the calls that a fuse counts, each of them one that is taken, in an order in which they may come again and again.
func counted() []func(*disk.Disk) api.Errno {
	return []func(*disk.Disk) api.Errno{
		func(d *disk.Disk) api.Errno { return d.Append("a", "x") },
		func(d *disk.Disk) api.Errno { return d.Append("a", "") },
		func(d *disk.Disk) api.Errno { return d.Cut("a", 1) },
		func(d *disk.Disk) api.Errno { return d.Sync() },
		func(d *disk.Disk) api.Errno { return d.Rename("a", "a") },
		func(d *disk.Disk) api.Errno { return d.Rename("a", "b") },
		func(d *disk.Disk) api.Errno { return d.Remove("b") },
	}
}

// uncounted does each call that a fuse does not count, and fails unless each tells what it must.
func uncounted(t *testing.T, d *disk.Disk) {
	t.Helper()
	told(t, d.Append("", "x"), api.ErrName)
	told(t, d.Append("a", strings.Repeat("x", 100)), api.ErrSpace)
	told(t, d.Cut("A", 0), api.ErrName)
	told(t, d.Cut("none", 0), api.ErrNone)
	told(t, d.Rename("none", "a"), api.ErrNone)
	told(t, d.Rename("none", "A"), api.ErrName)
	told(t, d.Remove("none"), api.ErrNone)
	told(t, d.Remove(""), api.ErrName)
	told(t, d.Fuse(-1), api.ErrRange)
	told(t, d.Crash(make([]int, api.MaxItems+1)), api.ErrLong)
	d.Read("a")
	d.Names()
	d.Used()
	for _, name := range d.Names() {
		told(t, d.Cut(name, -1), api.ErrRange)
		told(t, d.Rename(name, ""), api.ErrName)
	}
}

// Promises 2.1 and 2.2: a fuse counts just the calls that are refused for no other reason; the first one too many takes the disk down, and changes nothing.
func TestFuseCounts(t *testing.T) {
	calls := counted()
	for fuse := range 2*len(calls) + 1 {
		d := newDisk(t, 9)
		must(t, d.Fuse(fuse))
		for i := range fuse {
			uncounted(t, d)
			told(t, calls[i%len(calls)](d), api.OK)
		}
		uncounted(t, d)
		was := contents(d)
		for i := fuse; i < fuse+3; i++ {
			if e := d.Append("q", "x"); e != api.ErrDown {
				t.Error(fuse, i, e)
			}
			uncounted(t, d)
		}
		holds(t, d, was...)
	}
}

// Promises 2.1 and 2.2: each of the counted calls takes the disk down, and is refused by one that is down, whatever its fuse is then.
func TestEachCallGoesDown(t *testing.T) {
	for i, first := range counted() {
		for j, second := range counted() {
			d := newDisk(t, 9)
			must(t, d.Append("a", "xy"))
			must(t, d.Append("b", "z"))
			must(t, d.Fuse(0))
			if e := first(d); e != api.ErrDown {
				t.Error(i, e)
			}
			told(t, d.Fuse(5), api.OK)
			if e := second(d); e != api.ErrDown {
				t.Error(i, j, e)
			}
			holds(t, d, "a", "xy", "b", "z")
			must(t, d.Crash([]int{1, 1}))
			holds(t, d, "a", "x", "b", "z")
			for range 7 {
				told(t, d.Sync(), api.OK)
			}
		}
	}
}

// Promise 2.3: a fuse of 0 that no call has met yet may be put out by another one; the later fuse holds.
func TestFuseAgain(t *testing.T) {
	d := newDisk(t, 9)
	must(t, d.Fuse(0))
	must(t, d.Fuse(1))
	told(t, d.Sync(), api.OK)
	must(t, d.Fuse(2))
	told(t, d.Sync(), api.OK)
	told(t, d.Sync(), api.OK)
	told(t, d.Sync(), api.ErrDown)
	must(t, d.Fuse(9))
	told(t, d.Sync(), api.ErrDown)
}

// Promise 2.4: behind a crash there is no fuse, be the disk up or down.
func TestCrashTakesFuse(t *testing.T) {
	for fuse := range 3 {
		d := newDisk(t, 9)
		must(t, d.Fuse(fuse))
		must(t, d.Crash(nil))
		for range 9 {
			told(t, d.Append("a", "x"), api.OK)
		}
		must(t, d.Fuse(0))
		told(t, d.Sync(), api.ErrDown)
		must(t, d.Fuse(0))
		must(t, d.Crash([]int{9}))
		for range 9 {
			told(t, d.Sync(), api.OK)
		}
		holds(t, d, "a", "xxxxxxxxx")
	}
}

// Promises 2.1 and 2.4: a new disk, and one behind a crash, takes as many calls as come.
func TestNoFuse(t *testing.T) {
	d := newDisk(t, 9)
	for range 2 {
		for range 1 << 16 {
			if e := d.Append("a", ""); e != api.OK {
				t.Fatal(e)
			}
		}
		must(t, d.Fuse(1))
		must(t, d.Crash(nil))
	}
}

// sheet is a file as the tests see it: what is safe, and what is not.
type sheet struct{ safe, tail string }

// step does one call of a run, on a disk and, if the disk took it, on the sheets.
type step struct {
	call func(*disk.Disk) api.Errno
	done func(map[string]sheet)
}

func appends(name, data string) step {
	return step{
		func(d *disk.Disk) api.Errno { return d.Append(name, data) },
		func(m map[string]sheet) { m[name] = sheet{m[name].safe, m[name].tail + data} },
	}
}

func cuts(name string, length int) step {
	return step{
		func(d *disk.Disk) api.Errno { return d.Cut(name, length) },
		func(m map[string]sheet) {
			s := m[name]
			if length < len(s.safe) {
				m[name] = sheet{s.safe[:length], ""}
			} else {
				m[name] = sheet{s.safe, s.tail[:length-len(s.safe)]}
			}
		},
	}
}

func syncs() step {
	return step{
		func(d *disk.Disk) api.Errno { return d.Sync() },
		func(m map[string]sheet) {
			for name, s := range m {
				m[name] = sheet{s.safe + s.tail, ""}
			}
		},
	}
}

func renames(from, to string) step {
	return step{
		func(d *disk.Disk) api.Errno { return d.Rename(from, to) },
		func(m map[string]sheet) {
			s := m[from]
			delete(m, from)
			m[to] = s
		},
	}
}

func removes(name string) step {
	return step{
		func(d *disk.Disk) api.Errno { return d.Remove(name) },
		func(m map[string]sheet) { delete(m, name) },
	}
}

// run is a run of calls that touches all that a crash may tell apart.
func run() []step {
	return []step{
		appends("log", "one"), syncs(), appends("log", "two"), appends("big", "12345"),
		appends("log", ""), appends("none", ""), syncs(), appends("log", "three"), cuts("log", 8), cuts("big", 2),
		appends("big", "xyz"), renames("big", "was"), appends("big", "again"), syncs(), removes("was"),
		appends("log", "four"), renames("log", "big"), cuts("big", 11), cuts("big", 11), renames("big", "big"),
		appends("was", "back"), removes("none"), syncs(), appends("was", "q"), cuts("was", 0), syncs(),
	}
}

// draws are some of what a crash may draw for three files.
func draws() [][]int {
	var l [][]int
	for _, a := range []int{-1, 0, 1, 2, 3, 7} {
		for _, b := range []int{-5, 0, 1, 4} {
			l = append(l, []int{a}, []int{a, b}, []int{a, b, 2}, []int{a, b, 2, 3})
		}
	}
	return append(l, nil)
}

// burnt is a disk on which the run was done up to its fuse, and what was taken by it then.
func burnt(t *testing.T, fuse int) (*disk.Disk, map[string]sheet) {
	t.Helper()
	d := newDisk(t, 60)
	sheets := map[string]sheet{}
	must(t, d.Fuse(fuse))
	for i, s := range run() {
		e := s.call(d)
		if (e == api.OK) != (i < fuse) {
			t.Fatal(fuse, i, e)
		}
		if e == api.OK {
			s.done(sheets)
		}
	}
	return d, sheets
}

// Promises 2.4 and 2.5: with the fuse at each place of a run, and several draws: what was synced is there, behind it a beginning, as long as was drawn, of what was appended since.
func TestCrashAtEachPlace(t *testing.T) {
	for fuse := range len(run()) + 1 {
		for _, drawn := range draws() {
			d, sheets := burnt(t, fuse)
			must(t, d.Crash(drawn))
			left := slices.Clone(drawn)
			names := d.Names()
			if len(names) != len(sheets) {
				t.Fatal(fuse, drawn, names, sheets)
			}
			for _, name := range names {
				s, there := sheets[name]
				keep := 0
				if s.tail != "" && len(left) > 0 {
					keep, left = left[0], left[1:]
				}
				keep = max(keep, 0) % (len(s.tail) + 1)
				if got, e := d.Read(name); !there || e != api.OK || got != s.safe+s.tail[:keep] {
					t.Fatal(fuse, drawn, name, got, e, s)
				}
			}
		}
	}
}

// Promise 2.5: behind a crash, and behind a sync, a crash changes nothing, whatever it draws.
func TestCrashOfWhatIsSafe(t *testing.T) {
	for fuse := range len(run()) + 1 {
		for _, drawn := range draws() {
			d, _ := burnt(t, fuse)
			must(t, d.Crash(drawn))
			was := contents(d)
			for _, again := range draws() {
				must(t, d.Crash(again))
				holds(t, d, was...)
			}
			must(t, d.Append("log", "more"))
			must(t, d.Append("other", "new"))
			must(t, d.Sync())
			was = contents(d)
			for _, again := range draws() {
				must(t, d.Crash(again))
				holds(t, d, was...)
			}
		}
	}
}

// Promise 2.6: a file that is written, synced and renamed into another one's place is the old one or the new one, whole.
func TestFileInPlaceOfAnother(t *testing.T) {
	for fuse := range 6 {
		for draw := -1; draw < 12; draw++ {
			d := newDisk(t, 30)
			must(t, d.Append("file", "the old"))
			must(t, d.Sync())
			must(t, d.Fuse(fuse))
			d.Append("new", "all of")
			d.Append("new", " the new")
			d.Sync()
			renamed := d.Rename("new", "file")
			must(t, d.Crash([]int{draw}))
			want := "the old"
			if renamed == api.OK {
				want = "all of the new"
			}
			if s, e := d.Read("file"); s != want || e != api.OK || (renamed == api.OK) != (fuse >= 4) {
				t.Error(fuse, draw, s, e, renamed)
			}
		}
	}
}

// model is a disk as simple as can be, by the chapter's words.
type model struct {
	room   int
	sheets map[string]sheet
	fused  bool
	fuse   int
	down   bool
}

func (m *model) used() int {
	n := 0
	for _, s := range m.sheets {
		n += len(s.safe) + len(s.tail)
	}
	return n
}

// does tells what a counted call is answered that is refused by e, or by nothing but the fuse, and does it.
func (m *model) does(e api.Errno, s step) api.Errno {
	if e != api.OK {
		return e
	}
	if m.down || m.fused && m.fuse == 0 {
		m.down = true
		return api.ErrDown
	}
	m.fuse--
	s.done(m.sheets)
	return api.OK
}

func drawnName(r *rand.Rand) string {
	return []string{"a", "b", "c", "d.1", "e", "a", "b", "c", "", "Q"}[r.Intn(10)]
}

func badName(name string) bool { return name == "" || name == "Q" }

// refusal is the first that fits: of names that may not be, of a file that is not there, of a number outside.
func (m *model) refusal(name, other string, outside bool) api.Errno {
	_, there := m.sheets[name]
	switch {
	case badName(name) || badName(other):
		return api.ErrName
	case !there:
		return api.ErrNone
	case outside:
		return api.ErrRange
	}
	return api.OK
}

// drawnStep draws a counted call, and tells why the model refuses it, but for the fuse.
func (m *model) drawnStep(r *rand.Rand) (step, api.Errno) {
	name, other := drawnName(r), drawnName(r)
	s := m.sheets[name]
	switch k := r.Intn(20); {
	case k < 10:
		data := strings.Repeat(string(rune('a'+r.Intn(26))), r.Intn(8))
		if badName(name) {
			return appends(name, data), api.ErrName
		}
		if m.used()+len(data) > m.room {
			return appends(name, data), api.ErrSpace
		}
		return appends(name, data), api.OK
	case k < 13:
		length := r.Intn(len(s.safe)+len(s.tail)+3) - 1
		return cuts(name, length), m.refusal(name, "a", length < 0 || length > len(s.safe)+len(s.tail))
	case k < 15:
		return syncs(), api.OK
	case k < 18:
		return renames(name, other), m.refusal(name, other, false)
	}
	return removes(name), m.refusal(name, "a", false)
}

// crash does a crash on the model.
func (m *model) crash(drawn []int) {
	m.down, m.fused = false, false
	var names []string
	for name := range m.sheets {
		names = append(names, name)
	}
	slices.Sort(names)
	for _, name := range names {
		s := m.sheets[name]
		keep := 0
		if s.tail != "" && len(drawn) > 0 {
			keep, drawn = max(drawn[0], 0)%(len(s.tail)+1), drawn[1:]
		}
		m.sheets[name] = sheet{s.safe + s.tail[:keep], ""}
	}
}

// same fails unless a disk has what the model has, and keeps to its room.
func (m *model) same(t *testing.T, d *disk.Disk) {
	t.Helper()
	names := d.Names()
	if len(names) != len(m.sheets) || !slices.IsSorted(names) || d.Used() != m.used() || d.Used() > m.room {
		t.Fatal(names, m.sheets, d.Used())
	}
	for name, s := range m.sheets {
		if got, e := d.Read(name); got != s.safe+s.tail || e != api.OK {
			t.Fatal(name, got, e, s)
		}
	}
}

// Promises 2.1 to 2.6: drawn calls tell what the chapter's words tell, and two disks that are given the same tell the same.
func TestAsTheModel(t *testing.T) {
	r := rand.New(rand.NewSource(6))
	for range 300 {
		room := r.Intn(60)
		d, twin := newDisk(t, room), newDisk(t, room)
		m := &model{room: room, sheets: map[string]sheet{}}
		for range 150 {
			switch r.Intn(20) {
			case 0:
				n := r.Intn(12) - 1
				e := d.Fuse(n)
				if (e == api.ErrRange) != (n < 0) || twin.Fuse(n) != e {
					t.Fatal(n, e)
				}
				if n >= 0 {
					m.fused, m.fuse = true, n
				}
			case 1:
				drawn := []int{r.Intn(9) - 2, r.Intn(9) - 2, r.Intn(9) - 2}[:r.Intn(4)]
				must(t, d.Crash(drawn))
				must(t, twin.Crash(drawn))
				m.crash(drawn)
			default:
				s, e := m.drawnStep(r)
				want := m.does(e, s)
				if got := s.call(d); got != want || s.call(twin) != want {
					t.Fatal(got, want)
				}
			}
			m.same(t, d)
			m.same(t, twin)
		}
	}
}
