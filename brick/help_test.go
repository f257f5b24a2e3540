package brick_test

import (
	"encoding/binary"
	"hash/adler32"
	"slices"
	"strings"
	"testing"

	"skylark/api"
	"skylark/brick"
	"skylark/disk"
	"skylark/vals"
	"skylark/wal"
)

// must fails unless a call was taken.
func must(t *testing.T, e api.Errno) {
	t.Helper()
	if e != api.OK {
		t.Fatal(e)
	}
}

// told fails unless a call answered that.
func told(t *testing.T, got, want api.Errno) {
	t.Helper()
	if got != want {
		t.Errorf("%v, not %v", got, want)
	}
}

// node is a disk with a log and values. Segments and files of values have at most so many bytes, and one more record or value.
type node struct {
	t    *testing.T
	d    *disk.Disk
	w    *wal.Wal
	v    *vals.Vals
	most int
}

// newNode is a node whose disk has so much room.
func newNode(t *testing.T, room, most int) *node {
	t.Helper()
	d, e := disk.New(room)
	must(t, e)
	x := &node{t: t, d: d, most: most}
	x.up()
	return x
}

// up opens log and values.
func (x *node) up() {
	x.t.Helper()
	w, e := wal.Open(x.d, x.most)
	must(x.t, e)
	v, e := vals.Open(x.d, x.most)
	must(x.t, e)
	x.w, x.v = w, v
}

// crash opens log and values behind a crash.
func (x *node) crash(draws ...int) {
	x.t.Helper()
	must(x.t, x.d.Crash(draws))
	x.up()
}

// brick opens one.
func (x *node) brick(n int) *brick.Brick {
	x.t.Helper()
	b, e := brick.Open(n, x.d, x.w, x.v)
	if b == nil || e != api.OK {
		x.t.Fatal(n, e)
	}
	return b
}

// refuses fails unless no brick can be opened, for that reason, and the disk stays as it is.
func (x *node) refuses(n int, want api.Errno) {
	x.t.Helper()
	was := contents(x.d)
	if b, e := brick.Open(n, x.d, x.w, x.v); b != nil || e != want {
		x.t.Errorf("%v %v, not %v", b, e, want)
	}
	if got := contents(x.d); !slices.Equal(got, was) {
		x.t.Errorf("%q, not %q", got, was)
	}
}

// appended puts a record into the log.
func (x *node) appended(brick int, body string) {
	x.t.Helper()
	_, e := x.w.Append(brick, body)
	must(x.t, e)
}

// laid puts a file onto the disk, safe at once.
func (x *node) laid(name, bytes string) {
	x.t.Helper()
	must(x.t, x.d.Append(name, bytes))
	must(x.t, x.d.Sync())
}

// file is a file's bytes.
func (x *node) file(name string) string {
	x.t.Helper()
	s, e := x.d.Read(name)
	must(x.t, e)
	return s
}

// has tells whether there is such a file.
func (x *node) has(name string) bool {
	return slices.Contains(x.d.Names(), name)
}

// records are all of the log.
func (x *node) records() []api.Record {
	x.t.Helper()
	l, e := x.w.Read(x.w.First(), 1<<30)
	must(x.t, e)
	return l
}

// contents are the files' names and bytes, in turn.
func contents(d *disk.Disk) []string {
	var l []string
	for _, name := range d.Names() {
		s, _ := d.Read(name)
		l = append(l, name, s)
	}
	return l
}

// asked is the request by which tests ask.
func asked(ops ...api.Op) api.Request {
	return api.Request{Client: 4, Seq: 9, Ops: ops}
}

// done fails unless a brick does operations, all of them.
func done(t *testing.T, b *brick.Brick, ops ...api.Op) []api.Result {
	t.Helper()
	p, e := b.Do(asked(ops...))
	if e != api.OK || p.Client != 4 || p.Seq != 9 || p.Fault != (api.Fault{}) || len(p.Results) != len(ops) {
		t.Fatal(p, e)
	}
	for _, r := range p.Results {
		if r.Code != api.OK {
			t.Fatal(r)
		}
	}
	return p.Results
}

// notDone fails unless that error is told of a request, and the brick is as it was.
func notDone(t *testing.T, b *brick.Brick, r api.Request, want api.Errno) {
	t.Helper()
	was := seen(b)
	p, e := b.Do(r)
	if e != want || p.Client != 0 || p.Seq != 0 || len(p.Results) != 0 || p.Fault != (api.Fault{}) {
		t.Errorf("%v %v, not %v", p, e, want)
	}
	was.is(t, b)
}

func add(key, val string, stamp int) api.Op {
	return api.Op{Kind: api.OAdd, Key: key, Val: val, Stamp: stamp}
}

func set(key, val string, stamp int) api.Op {
	return api.Op{Kind: api.OSet, Key: key, Val: val, Stamp: stamp}
}

func replace(key, val string, stamp int) api.Op {
	return api.Op{Kind: api.OReplace, Key: key, Val: val, Stamp: stamp}
}

func remove(key string) api.Op {
	return api.Op{Kind: api.ODelete, Key: key}
}

func get(key string) api.Op {
	return api.Op{Kind: api.OGet, Key: key}
}

func many(key string, most int) api.Op {
	return api.Op{Kind: api.OMany, Key: key, Most: most}
}

func row(key, val string, stamp int) api.Row {
	return api.Row{Key: key, Stamp: stamp, Val: val}
}

// big is a value of so many bytes.
func big(letter string, n int) string {
	return strings.Repeat(letter, n)
}

func at(file, begin, long int) api.Place {
	return api.Place{File: file, At: begin, Long: long}
}

// view is all that a brick tells without being changed.
type view struct {
	rows []api.Row
	held int
	live []api.Place
}

func seen(b *brick.Brick) view {
	return view{rows: b.Rows(api.Span{}), held: b.Held(), live: b.Live()}
}

// is fails unless a brick tells just that.
func (v view) is(t *testing.T, b *brick.Brick) {
	t.Helper()
	got := seen(b)
	if !slices.Equal(got.rows, v.rows) || got.held != v.held || !slices.Equal(got.live, v.live) {
		t.Errorf("%v, not %v", got, v)
	}
}

// hasRows fails unless a brick has just these rows.
func hasRows(t *testing.T, b *brick.Brick, want ...api.Row) {
	t.Helper()
	if l := b.Rows(api.Span{}); !slices.Equal(l, want) {
		t.Errorf("%v, not %v", l, want)
	}
}

// isLive fails unless a brick has just these places.
func isLive(t *testing.T, b *brick.Brick, want ...api.Place) {
	t.Helper()
	if l := b.Live(); !slices.Equal(l, want) {
		t.Errorf("%v, not %v", l, want)
	}
}

// holds fails unless a brick holds up to there.
func holds(t *testing.T, b *brick.Brick, want int) {
	t.Helper()
	if n := b.Held(); n != want {
		t.Errorf("%d, not %d", n, want)
	}
}

// number and text are fields' bytes, written without package code.
func number(n int64) string {
	b := strings.TrimRight(string(binary.LittleEndian.AppendUint64(nil, uint64(n))), "\x00")
	return "N" + string([]byte{byte(len(b))}) + b
}

func text(s string) string {
	return "T" + number(int64(len(s)))[1:] + s
}

// framed is a frame's bytes, written without package code.
func framed(body string) string {
	b := binary.LittleEndian.AppendUint32(nil, uint32(len(body)))
	b = append(b, body...)
	return string(binary.LittleEndian.AppendUint32(b, adler32.Checksum(b)))
}

// list is bytes of a list: of numbers (int) and texts (string).
func list(parts ...any) string {
	s := ""
	for _, x := range parts {
		switch x := x.(type) {
		case int:
			s += number(int64(x))
		case string:
			s += text(x)
		case api.Place:
			s += list(x.File, x.At, x.Long)
		}
	}
	return s
}

// state is a state file's bytes.
func state(parts ...any) string {
	return framed(list(parts...))
}

// record is a request's bytes.
func record(r api.Request) string {
	s := list(r.Client, r.Seq, len(r.Ops))
	for _, x := range r.Ops {
		s += list(x.Kind, x.Key, x.Val, x.Stamp, x.Test, x.Most)
	}
	return s
}
