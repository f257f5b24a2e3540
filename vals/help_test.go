package vals_test

import (
	"encoding/binary"
	"hash/adler32"
	"slices"
	"strconv"
	"strings"
	"testing"

	"skylark/api"
	"skylark/disk"
	"skylark/vals"
)

// newDisk is a disk with as much room as there can be.
func newDisk(t *testing.T) *disk.Disk {
	t.Helper()
	return roomy(t, api.MaxBytes)
}

func roomy(t *testing.T, room int) *disk.Disk {
	t.Helper()
	d, e := disk.New(room)
	must(t, e)
	return d
}

// must fails unless a call was taken.
func must(t *testing.T, e api.Errno) {
	t.Helper()
	if e != api.OK {
		t.Fatal(e)
	}
}

// told fails unless a call answered that.
func told(t *testing.T, got, want api.Errno) {
	t.Helper()
	if got != want {
		t.Errorf("%v, not %v", got, want)
	}
}

// opened is the values of a disk.
func opened(t *testing.T, d *disk.Disk, most int) *vals.Vals {
	t.Helper()
	v, e := vals.Open(d, most)
	if v == nil || e != api.OK {
		t.Fatal(most, v, e)
	}
	return v
}

// placed fails unless a value is put at that place, and got from there.
func placed(t *testing.T, v *vals.Vals, s string, file, at int) {
	t.Helper()
	want := api.Place{File: file, At: at, Long: len(s)}
	if p, e := v.Put(s); p != want || e != api.OK {
		t.Fatalf("%v %v, not %v", p, e, want)
	}
	got(t, v, want, s)
}

// notPlaced fails unless that error is told of a value, and all is as it was.
func notPlaced(t *testing.T, v *vals.Vals, s string, want api.Errno) {
	t.Helper()
	was := seen(t, v)
	if p, e := v.Put(s); p != (api.Place{}) || e != want {
		t.Errorf("%v %v, not %v", p, e, want)
	}
	was.is(t, v)
}

// got fails unless that value is at a place.
func got(t *testing.T, v *vals.Vals, p api.Place, want string) {
	t.Helper()
	if s, e := v.Get(p); s != want || e != api.OK {
		t.Errorf("%v: %d bytes, %v, not %d bytes", p, len(s), e, len(want))
	}
}

// notGot fails unless a place is told to be none.
func notGot(t *testing.T, v *vals.Vals, p api.Place) {
	t.Helper()
	if s, e := v.Get(p); s != "" || e != api.ErrValue {
		t.Errorf("%v: %q %v", p, s, e)
	}
}

// noFile fails unless every call tells that there is no such file.
func noFile(t *testing.T, v *vals.Vals, file int) {
	t.Helper()
	was := seen(t, v)
	if n, e := v.Size(file); n != 0 || e != api.ErrValue {
		t.Errorf("Size of %d: %d %v", file, n, e)
	}
	if l, e := v.Places(file); len(l) != 0 || e != api.ErrValue {
		t.Errorf("Places of %d: %v %v", file, l, e)
	}
	notGot(t, v, api.Place{File: file})
	notGot(t, v, api.Place{File: file, Long: 1})
	told(t, v.Remove(file), api.ErrValue)
	was.is(t, v)
}

// view is all that values tell without being changed: of each file its number, its bytes, its places, and what is there.
type view struct {
	files, sizes []int
	places       []api.Place
	values       []string
}

func seen(t *testing.T, v *vals.Vals) view {
	t.Helper()
	x := view{files: v.Files()}
	for _, file := range x.files {
		size, e := v.Size(file)
		must(t, e)
		x.sizes = append(x.sizes, size)
		places, e := v.Places(file)
		must(t, e)
		x.places = append(x.places, places...)
	}
	for _, p := range x.places {
		s, e := v.Get(p)
		must(t, e)
		x.values = append(x.values, s)
	}
	return x
}

// is fails unless the values tell just that.
func (x view) is(t *testing.T, v *vals.Vals) {
	t.Helper()
	y := seen(t, v)
	if !slices.Equal(y.files, x.files) || !slices.Equal(y.sizes, x.sizes) || !slices.Equal(y.places, x.places) || !slices.Equal(y.values, x.values) {
		t.Errorf("files %v of %v bytes, %v; not files %v of %v bytes, %v", y.files, y.sizes, y.places, x.files, x.sizes, x.places)
	}
}

// content is one file's number and its values.
type content struct {
	file   int
	values []string
}

// holds fails unless there are just these files with just these values.
func holds(t *testing.T, v *vals.Vals, all ...content) {
	t.Helper()
	var x view
	for _, c := range all {
		at := 0
		for _, s := range c.values {
			x.places = append(x.places, api.Place{File: c.file, At: at, Long: len(s)})
			x.values = append(x.values, s)
			at += len(s) + 8
		}
		x.files = append(x.files, c.file)
		x.sizes = append(x.sizes, at)
	}
	x.is(t, v)
}

// contents are the files' names and bytes, in turn.
func contents(d *disk.Disk) []string {
	var l []string
	for _, name := range d.Names() {
		s, _ := d.Read(name)
		l = append(l, name, s)
	}
	return l
}

// onDisk fails unless the disk has just these files: names and bytes, in turn.
func onDisk(t *testing.T, d *disk.Disk, want ...string) {
	t.Helper()
	if l := contents(d); !slices.Equal(l, want) {
		t.Errorf("%q, not %q", l, want)
	}
}

// with is a new disk with these files (names and bytes, in turn), safe at once.
func with(t *testing.T, files ...string) *disk.Disk {
	t.Helper()
	d := newDisk(t)
	for i := 0; i < len(files); i += 2 {
		must(t, d.Append(files[i], files[i+1]))
	}
	must(t, d.Sync())
	return d
}

// framed is a frame's bytes, written without package code.
func framed(s string) string {
	b := binary.LittleEndian.AppendUint32(nil, uint32(len(s)))
	b = append(b, s...)
	return string(binary.LittleEndian.AppendUint32(b, adler32.Checksum(b)))
}

// lines are the frames of values one behind the other.
func lines(l ...string) string {
	var b strings.Builder
	for _, s := range l {
		b.WriteString(framed(s))
	}
	return b.String()
}

// name is the name of a file of values.
func name(n int) string {
	return "val." + strconv.Itoa(n)
}
