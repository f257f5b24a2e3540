package raft_test

import (
	"encoding/binary"
	"fmt"
	"hash/adler32"
	"math"
	"slices"
	"strings"
	"testing"

	"skylark/api"
	"skylark/ballot"
	"skylark/disk"
	"skylark/raft"
)

// brief is the beginning of what something looks like.
func brief(x any) string {
	s := fmt.Sprintf("%#v", x)
	return s[:min(len(s), 400)]
}

// must fails unless a call was taken.
func must(t *testing.T, e api.Errno) {
	t.Helper()
	if e != api.OK {
		t.Fatal(e)
	}
}

// told fails unless a call answered that.
func told(t *testing.T, got, want api.Errno) {
	t.Helper()
	if got != want {
		t.Errorf("%v, not %v", got, want)
	}
}

func newDisk(t *testing.T, room int) *disk.Disk {
	t.Helper()
	d, e := disk.New(room)
	must(t, e)
	return d
}

// with is a disk, with as much room as there can be, whose ballot file has these bytes, safe at once.
func with(t *testing.T, frames ...string) *disk.Disk {
	t.Helper()
	d := newDisk(t, api.MaxBytes)
	must(t, d.Append("ballot", strings.Join(frames, "")))
	must(t, d.Sync())
	return d
}

// onDisk fails unless the disk has just a ballot of these frames.
func onDisk(t *testing.T, d *disk.Disk, frames ...string) {
	t.Helper()
	want := strings.Join(frames, "")
	got, _ := d.Read("ballot")
	if names := d.Names(); len(names) > 1 || got != want {
		t.Errorf("%v %.300q, not %.300q", names, got, want)
	}
}

// opened is a node of so many with that patience, from a disk that has one.
func opened(t *testing.T, id, nodes, patience int, d *disk.Disk) *raft.Node {
	t.Helper()
	n, e := raft.Open(id, nodes, patience, d)
	if n == nil || e != api.OK {
		t.Fatal(id, nodes, patience, n, e)
	}
	return n
}

// is fails unless the node tells that.
func is(t *testing.T, n *raft.Node, role, term, leader, committed int) {
	t.Helper()
	a, b, c, d := n.State()
	if got, want := [4]int{a, b, c, d}, [4]int{role, term, leader, committed}; got != want {
		t.Errorf("%v, not %v", got, want)
	}
}

// sends fails unless these are the letters that the node wants to send since it was asked last.
func sends(t *testing.T, n *raft.Node, want ...api.Letter) {
	t.Helper()
	if got := n.Letters(); !slices.Equal(got, want) {
		t.Errorf("%s, not %s", brief(got), brief(want))
	}
}

// ticks lets so many ticks go by.
func ticks(t *testing.T, n *raft.Node, many int) {
	t.Helper()
	for range many {
		must(t, n.Tick())
	}
}

// hears lets the node take a letter.
func hears(t *testing.T, n *raft.Node, from int, body string) {
	t.Helper()
	if e := n.Hear(from, body); e != api.OK {
		t.Fatalf("%d %q: %v", from, body, e)
	}
}

// refuses fails unless the node tells that error of a letter, and wants to send nothing by it.
func refuses(t *testing.T, n *raft.Node, from int, body string, want api.Errno) {
	t.Helper()
	n.Letters()
	if e := n.Hear(from, body); e != want {
		t.Errorf("%d %.100q: %v, not %v", from, body, e, want)
	}
	sends(t, n)
}

// waits fails unless the node, which does not lead, asks for votes at that tick from now on, and at none ahead of it.
func waits(t *testing.T, n *raft.Node, want int) {
	t.Helper()
	_, term, _, _ := n.State()
	for i := range want {
		must(t, n.Tick())
		if _, now, _, _ := n.State(); (now > term) != (i == want-1) {
			t.Fatalf("term %d at tick %d, not %d", now, i+1, want)
		}
	}
}

// takes fails unless these are the entries taken, of at most so many.
func takes(t *testing.T, n *raft.Node, most int, want ...api.Entry) {
	t.Helper()
	if got, e := n.Taken(most); e != api.OK || !slices.Equal(got, want) {
		t.Errorf("%v %s, not %s", e, brief(got), brief(want))
	}
}

// proposes fails unless Propose answers that.
func proposes(t *testing.T, n *raft.Node, data string, want int, wantE api.Errno) {
	t.Helper()
	if number, e := n.Propose(data); number != want || e != wantE {
		t.Errorf("%.40q: %v %v, not %v %v", data, number, e, want, wantE)
	}
}

// has fails unless the disk's ballot is that.
func has(t *testing.T, d *disk.Disk, nodes, term, vote int, want ...api.Entry) {
	t.Helper()
	b, e := ballot.Open(d, nodes)
	must(t, e)
	l, e := b.Log().Slice(1, math.MaxInt)
	must(t, e)
	if b.Term() != term || b.Vote() != vote || !slices.Equal(l, want) {
		t.Errorf("%d %d %s, not %d %d %s", b.Term(), b.Vote(), brief(l), term, vote, brief(want))
	}
}

// number and text are fields' bytes, written without package code.
func number(n int64) string {
	b := strings.TrimRight(string(binary.LittleEndian.AppendUint64(nil, uint64(n))), "\x00")
	return "N" + string([]byte{byte(len(b))}) + b
}

func text(s string) string {
	return "T" + number(int64(len(s)))[1:] + s
}

// list is the bytes of numbers and texts.
func list(parts ...any) string {
	body := ""
	for _, p := range parts {
		switch x := p.(type) {
		case int:
			body += number(int64(x))
		case string:
			body += text(x)
		default:
			panic(fmt.Sprint(x))
		}
	}
	return body
}

// framed is the frame of numbers and texts.
func framed(parts ...any) string {
	body := list(parts...)
	b := binary.LittleEndian.AppendUint32(nil, uint32(len(body)))
	b = append(b, body...)
	return string(binary.LittleEndian.AppendUint32(b, adler32.Checksum(b)))
}

// stand, put and gone are a ballot file's three kinds of lists, as frames.
func stand(term, vote int) string { return framed(1, term, vote) }

func put(term int, data string) string { return framed(2, term, data) }

func gone(first int) string { return framed(3, first) }

// ask, vote, give and answer are the four kinds of letters.
func ask(term, last, lastTerm int) string { return list(1, term, last, lastTerm) }

func vote(term, given int) string { return list(2, term, given) }

func give(term, prev, prevTerm, committed int, entries ...api.Entry) string {
	body := list(3, term, prev, prevTerm, committed, len(entries))
	for _, e := range entries {
		body += list(e.Term, e.Data)
	}
	return body
}

func answer(term, taken, n int) string { return list(4, term, taken, n) }

// to is a letter to a node.
func to(node int, body string) api.Letter {
	return api.Letter{To: node, Body: body}
}

// entry is one of a term with a text.
func entry(term int, data string) api.Entry {
	return api.Entry{Term: term, Data: data}
}

// long is a text of so many bytes.
func long(size int) string {
	return strings.Repeat("d", size)
}

// leading is the node 0 of so many, of the patience 2, that was just chosen in a term, with what is on its disk and an empty entry behind it; its letters are read.
func leading(t *testing.T, nodes int, d *disk.Disk) *raft.Node {
	t.Helper()
	n := opened(t, 0, nodes, 2, d)
	ticks(t, n, 2)
	_, term, _, _ := n.State()
	for i := 1; i <= nodes/2; i++ {
		hears(t, n, i, vote(term, 1))
	}
	_, _, _, committed := n.State()
	is(t, n, raft.RLead, term, 0, committed)
	n.Letters()
	return n
}
