package ballot_test

import (
	"encoding/binary"
	"fmt"
	"hash/adler32"
	"math"
	"slices"
	"strings"
	"testing"

	"skylark/api"
	"skylark/ballot"
	"skylark/disk"
)

// must fails unless a call was taken.
func must(t *testing.T, e api.Errno) {
	t.Helper()
	if e != api.OK {
		t.Fatal(e)
	}
}

// told fails unless a call answered that.
func told(t *testing.T, got, want api.Errno) {
	t.Helper()
	if got != want {
		t.Errorf("%v, not %v", got, want)
	}
}

func newDisk(t *testing.T, room int) *disk.Disk {
	t.Helper()
	d, e := disk.New(room)
	must(t, e)
	return d
}

// with is a disk, with as much room as there can be, whose ballot file has these bytes, safe at once.
func with(t *testing.T, file string) *disk.Disk {
	t.Helper()
	d := newDisk(t, api.MaxBytes)
	must(t, d.Append("ballot", file))
	must(t, d.Sync())
	return d
}

// file is what a disk's ballot file has.
func file(t *testing.T, d *disk.Disk) string {
	t.Helper()
	s, e := d.Read("ballot")
	must(t, e)
	return s
}

// contents are the files' names and bytes, in turn.
func contents(d *disk.Disk) []string {
	var l []string
	for _, name := range d.Names() {
		s, _ := d.Read(name)
		l = append(l, name, s)
	}
	return l
}

// onDisk fails unless the disk has just these files: names and bytes, in turn.
func onDisk(t *testing.T, d *disk.Disk, want ...string) {
	t.Helper()
	if got := contents(d); !slices.Equal(got, want) {
		t.Errorf("%.300q, not %.300q", got, want)
	}
}

// opened is the ballot of a disk that has one.
func opened(t *testing.T, d *disk.Disk, nodes int) *ballot.Ballot {
	t.Helper()
	b, e := ballot.Open(d, nodes)
	if b == nil || e != api.OK {
		t.Fatal(nodes, b, e)
	}
	return b
}

// refused fails unless Open tells that error, and leaves the disk as it is.
func refused(t *testing.T, d *disk.Disk, nodes int, want api.Errno) {
	t.Helper()
	was := contents(d)
	if b, e := ballot.Open(d, nodes); b != nil || e != want {
		t.Errorf("%.300q: %v %v, not %v", was, b, e, want)
	}
	onDisk(t, d, was...)
}

// appends fails unless Append answers that.
func appends(t *testing.T, b *ballot.Ballot, data string, want int, wantE api.Errno) {
	t.Helper()
	if n, e := b.Append(data); n != want || e != wantE {
		t.Errorf("%.40q: %v %v, not %v %v", data, n, e, want, wantE)
	}
}

// merges fails unless Merge answers that.
func merges(t *testing.T, b *ballot.Ballot, prev, term int, entries []api.Entry, want int, wantE api.Errno) {
	t.Helper()
	if n, e := b.Merge(prev, term, entries); n != want || e != wantE {
		t.Errorf("%v %v%s: %v %v, not %v %v", prev, term, short(entries), n, e, want, wantE)
	}
}

// view is all that a ballot tells, or should.
type view struct {
	term, vote int
	entries    []api.Entry
}

// of is a view.
func of(term, vote int, entries ...api.Entry) view {
	return view{term: term, vote: vote, entries: entries}
}

func seen(t *testing.T, b *ballot.Ballot) view {
	t.Helper()
	l := b.Log()
	if base, term := l.Base(); base != 0 || term != 0 {
		t.Error(base, term)
	}
	list, e := l.Slice(1, math.MaxInt)
	must(t, e)
	return of(b.Term(), b.Vote(), list...)
}

func (v view) same(w view) bool {
	return v.term == w.term && v.vote == w.vote && slices.Equal(v.entries, w.entries)
}

func (v view) String() string {
	return fmt.Sprintf("term %d, vote %d,%s", v.term, v.vote, short(v.entries))
}

// short is the first of entries, to be printed.
func short(entries []api.Entry) string {
	s := ""
	for _, e := range entries[:min(len(entries), 20)] {
		s += fmt.Sprintf(" {%d %.20q}", e.Term, e.Data)
	}
	return s
}

// is fails unless a ballot tells just that.
func (v view) is(t *testing.T, b *ballot.Ballot) {
	t.Helper()
	if got := seen(t, b); !got.same(v) {
		t.Errorf("%v, not %v", got, v)
	}
}

// number and text are fields' bytes, written without package code.
func number(n int64) string {
	b := strings.TrimRight(string(binary.LittleEndian.AppendUint64(nil, uint64(n))), "\x00")
	return "N" + string([]byte{byte(len(b))}) + b
}

func text(s string) string {
	return "T" + number(int64(len(s)))[1:] + s
}

// framed is a frame's bytes, written without package code.
func framed(body string) string {
	b := binary.LittleEndian.AppendUint32(nil, uint32(len(body)))
	b = append(b, body...)
	return string(binary.LittleEndian.AppendUint32(b, adler32.Checksum(b)))
}

// list is the frame of numbers and texts.
func list(parts ...any) string {
	body := ""
	for _, p := range parts {
		switch x := p.(type) {
		case int:
			body += number(int64(x))
		case string:
			body += text(x)
		}
	}
	return framed(body)
}

// stand, put and gone are the file's three kinds of lists, as frames.
func stand(term, vote int) string { return list(1, term, vote) }

func put(term int, data string) string { return list(2, term, data) }

func gone(first int) string { return list(3, first) }

// puts are the frames of entries, one behind the other.
func puts(entries ...api.Entry) string {
	s := ""
	for _, e := range entries {
		s += put(e.Term, e.Data)
	}
	return s
}

// entry is one of a term with a text.
func entry(term int, data string) api.Entry {
	return api.Entry{Term: term, Data: data}
}

// long is a text of so many bytes.
func long(size int) string {
	return strings.Repeat("d", size)
}
