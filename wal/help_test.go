package wal_test

import (
	"encoding/binary"
	"hash/adler32"
	"slices"
	"strconv"
	"strings"
	"testing"

	"skylark/api"
	"skylark/disk"
	"skylark/wal"
)

// newDisk is a disk with as much room as there can be.
func newDisk(t *testing.T) *disk.Disk {
	t.Helper()
	return roomy(t, api.MaxBytes)
}

func roomy(t *testing.T, room int) *disk.Disk {
	t.Helper()
	d, e := disk.New(room)
	must(t, e)
	return d
}

// must fails unless a call was taken.
func must(t *testing.T, e api.Errno) {
	t.Helper()
	if e != api.OK {
		t.Fatal(e)
	}
}

// told fails unless a call answered that.
func told(t *testing.T, got, want api.Errno) {
	t.Helper()
	if got != want {
		t.Errorf("%v, not %v", got, want)
	}
}

// opened is the log of a disk that has one.
func opened(t *testing.T, d *disk.Disk, most int) *wal.Wal {
	t.Helper()
	w, e := wal.Open(d, most)
	if w == nil || e != api.OK {
		t.Fatal(most, w, e)
	}
	return w
}

// refused fails unless Open tells that error, and leaves the disk as it is.
func refused(t *testing.T, d *disk.Disk, most int, want api.Errno) {
	t.Helper()
	was := contents(d)
	if w, e := wal.Open(d, most); w != nil || e != want {
		t.Errorf("%v %v, not %v", w, e, want)
	}
	if got := contents(d); !slices.Equal(got, was) {
		t.Errorf("%q, not %q", got, was)
	}
}

// appended fails unless the log takes a record, and gives it that number.
func appended(t *testing.T, w *wal.Wal, r api.Record) {
	t.Helper()
	if n, e := w.Append(r.Brick, r.Body); n != r.Seq || e != api.OK {
		t.Fatalf("%d %v, not %d", n, e, r.Seq)
	}
}

// notAppended fails unless the log tells that error of a record, and is as it was.
func notAppended(t *testing.T, w *wal.Wal, brick int, body string, want api.Errno) {
	t.Helper()
	was := seen(t, w)
	if n, e := w.Append(brick, body); n != 0 || e != want {
		t.Errorf("%d %v, not %v", n, e, want)
	}
	was.is(t, w)
}

// view is all that a log tells without being changed.
type view struct {
	first, next int
	segments    []int
	records     []api.Record
}

func seen(t *testing.T, w *wal.Wal) view {
	t.Helper()
	l, e := w.Read(w.First(), 1<<30)
	must(t, e)
	return view{first: w.First(), next: w.Next(), segments: w.Segments(), records: l}
}

// is fails unless the log tells just that.
func (v view) is(t *testing.T, w *wal.Wal) {
	t.Helper()
	got := seen(t, w)
	if got.first != v.first || got.next != v.next || !slices.Equal(got.segments, v.segments) || !slices.Equal(got.records, v.records) {
		t.Errorf("%v, not %v", short(got), short(v))
	}
}

// short is a view to be printed.
func short(v view) string {
	s := strconv.Itoa(v.first) + " to " + strconv.Itoa(v.next) + ", segments"
	for _, n := range v.segments {
		s += " " + strconv.Itoa(n)
	}
	for _, r := range v.records {
		s += " {" + strconv.Itoa(r.Seq) + " " + strconv.Itoa(r.Brick) + " " + r.Body[:min(len(r.Body), 9)] + "}"
	}
	return s
}

// holds fails unless the log has just these records, in these segments.
func holds(t *testing.T, w *wal.Wal, segments []int, records ...api.Record) {
	t.Helper()
	v := view{first: 1, next: 1, segments: segments, records: records}
	if len(segments) > 0 {
		v.first, v.next = segments[0], segments[0]+len(records)
	}
	v.is(t, w)
}

// contents are the files' names and bytes, in turn.
func contents(d *disk.Disk) []string {
	var l []string
	for _, name := range d.Names() {
		s, _ := d.Read(name)
		l = append(l, name, s)
	}
	return l
}

// onDisk fails unless the disk has just these files: names and bytes, in turn.
func onDisk(t *testing.T, d *disk.Disk, want ...string) {
	t.Helper()
	if got := contents(d); !slices.Equal(got, want) {
		t.Errorf("%q, not %q", got, want)
	}
}

// put lays files on a disk, safe at once.
func put(t *testing.T, d *disk.Disk, files ...string) {
	t.Helper()
	for i := 0; i < len(files); i += 2 {
		must(t, d.Append(files[i], files[i+1]))
	}
	must(t, d.Sync())
}

// with is a new disk with these files.
func with(t *testing.T, files ...string) *disk.Disk {
	t.Helper()
	d := newDisk(t)
	put(t, d, files...)
	return d
}

// number and text are fields' bytes, written without package code.
func number(n int64) string {
	b := strings.TrimRight(string(binary.LittleEndian.AppendUint64(nil, uint64(n))), "\x00")
	return "N" + string([]byte{byte(len(b))}) + b
}

func text(s string) string {
	return "T" + number(int64(len(s)))[1:] + s
}

// framed is a frame's bytes, written without package code.
func framed(body string) string {
	b := binary.LittleEndian.AppendUint32(nil, uint32(len(body)))
	b = append(b, body...)
	return string(binary.LittleEndian.AppendUint32(b, adler32.Checksum(b)))
}

// line is a record's bytes in a segment.
func line(r api.Record) string {
	return framed(number(int64(r.Seq)) + number(int64(r.Brick)) + text(r.Body))
}

// lines are the bytes of records one behind the other.
func lines(l ...api.Record) string {
	s := ""
	for _, r := range l {
		s += line(r)
	}
	return s
}

// rec is a record whose brick and body hang on its number.
func rec(seq int) api.Record {
	return api.Record{Seq: seq, Brick: seq * 7 % api.MaxNodes, Body: strings.Repeat(string(rune('a'+seq%26)), seq%5)}
}

// recs are the records from a number on, below another one.
func recs(from, to int) []api.Record {
	var l []api.Record
	for seq := from; seq < to; seq++ {
		l = append(l, rec(seq))
	}
	return l
}

// name is the name of a segment's file.
func name(n int) string {
	return "log." + strconv.Itoa(n)
}
