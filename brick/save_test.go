package brick_test

import (
	"slices"
	"strconv"
	"testing"

	"skylark/api"
	"skylark/brick"
)

// Promise 13.3: the state file has the log's Next, and the rows by keys: values of fewer than 64 bytes as texts, others as places.
func TestSaveBytes(t *testing.T) {
	x := newNode(t, 20000, 100)
	b := x.brick(12)
	must(t, b.Save())
	if s := x.file("state.12"); s != state(1, 0) {
		t.Errorf("%q", s)
	}
	done(t, b, add("k", "v", api.MaxStamp), add("b", big("b", 64), 3))
	done(t, b, add("a", big("a", 63), 2), add("z", big("z", api.MaxVal), 1), add("j", "", 4))
	x.appended(3, "of another one")
	must(t, b.Save())
	want := state(4, 5, "a", 2, big("a", 63), "b", 3, at(1, 0, 64), "j", 4, "", "k", api.MaxStamp, "v", "z", 1, at(1, 72, api.MaxVal))
	if s := x.file("state.12"); s != want {
		t.Errorf("%q, not %q", s, want)
	}
	if x.has("state.new") || x.file("val.1") != framed(big("b", 64))+framed(big("z", api.MaxVal)) {
		t.Error(x.d.Names())
	}
	isLive(t, b, at(1, 0, 64), at(1, 72, api.MaxVal))
	holds(t, b, 4)
	seen(b).is(t, x.brick(12))
}

// Promise 13.3: all is safe behind Save, whatever a crash draws.
func TestSaveIsSafe(t *testing.T) {
	x := newNode(t, 20000, 1000)
	b := x.brick(0)
	done(t, b, add("k", big("v", 100), 1))
	must(t, x.d.Append("other", "z"))
	must(t, b.Save())
	was, files := seen(b), contents(x.d)
	x.crash(-1, -1, -1, -1)
	was.is(t, x.brick(0))
	if got := contents(x.d); !slices.Equal(got, files) {
		t.Errorf("%q, not %q", got, files)
	}
}

// Promise 13.3: what stands in state.new is removed, be it torn, or another brick's state.
func TestSaveOverDraft(t *testing.T) {
	for _, left := range []string{"", "z", state(1, 0), state(9, 9)} {
		x := newNode(t, 20000, 100)
		x.laid("state.new", left)
		b, c := x.brick(1), x.brick(2)
		done(t, b, add("k", "v", 1))
		must(t, b.Save())
		must(t, c.Save())
		if x.has("state.new") || x.file("state.1") != state(2, 1, "k", 1, "v") || x.file("state.2") != state(2, 0) {
			t.Errorf("%q: %q", left, contents(x.d))
		}
	}
}

// stood is what Save does to the disk, step by step: behind so many of its calls that change files.
type stood struct {
	vals, draft, state string
	synced             int
}

// Promise 13.3: Save goes on in its order: values are put, all is synced, state.new is removed, written, all is synced, and it is renamed; where the disk goes down it stops. Bytes that are not safe yet are lost behind a crash that keeps nothing.
func TestSaveInOrder(t *testing.T) {
	one, two := framed(big("i", 64)), framed(big("k", 70))
	was, is := state(1, 0), state(2, 2, "i", 1, at(1, 0, 64), "k", 1, at(1, 72, 70))
	for fuse, want := range []stood{
		{"", "left", was, 0}, {one, "left", was, 0}, {one + two, "left", was, 0}, {one + two, "left", was, 1},
		{one + two, "", was, 1}, {one + two, is, was, 1}, {one + two, is, was, 2}, {one + two, "", is, 2},
	} {
		x := newNode(t, 5000, 1000)
		b := x.brick(0)
		must(t, b.Save())
		x.laid("state.new", "left")
		done(t, b, add("k", big("k", 70), 1), add("i", big("i", 64), 1))
		must(t, x.d.Fuse(fuse))
		e := b.Save()
		if fuse < 7 {
			told(t, e, api.ErrDown)
			holds(t, b, 2)
		} else {
			must(t, e)
		}
		if got, _ := x.d.Read("val.1"); got != want.vals {
			t.Error(fuse, len(got))
		}
		if got, _ := x.d.Read("state.new"); got != want.draft || x.has("state.new") != (want.draft != "") {
			t.Errorf("%d: %q", fuse, got)
		}
		if got := x.file("state.0"); got != want.state {
			t.Errorf("%d: %q", fuse, got)
		}
		must(t, x.d.Crash([]int{-1, -1, -1}))
		if want.synced < 1 {
			want.vals = ""
		}
		if want.synced < 2 && want.draft == is {
			want.draft = ""
		}
		if got, _ := x.d.Read("val.1"); got != want.vals {
			t.Error(fuse, len(got))
		}
		if got, _ := x.d.Read("state.new"); got != want.draft {
			t.Errorf("%d: %q", fuse, got)
		}
	}
}

// Promise 13.3: behind a Save that was refused those places are live, too, that were put on the way; and these are not put again.
func TestLiveBehindRefusal(t *testing.T) {
	for fuse := range 8 {
		x := newNode(t, 5000, 1000)
		b := x.brick(0)
		done(t, b, add("k", big("k", 70), 1), add("i", big("i", 64), 1), add("j", "small", 1))
		must(t, x.d.Fuse(fuse))
		b.Save()
		isLive(t, b, []api.Place{at(1, 0, 64), at(1, 72, 70)}[:min(fuse, 2)]...)
	}
	x := newNode(t, 520, 10000)
	b := x.brick(0)
	done(t, b, add("k", big("k", 70), 1), add("i", big("i", 64), 1), add("j", "small", 1))
	x.laid("other", big("z", 520-x.d.Used()-75))
	told(t, b.Save(), api.ErrSpace)
	isLive(t, b, at(1, 0, 64))
	must(t, x.d.Remove("other"))
	must(t, b.Save())
	isLive(t, b, at(1, 0, 64), at(1, 72, 70))
	if s := x.file("val.1"); s != framed(big("i", 64))+framed(big("k", 70)) {
		t.Error(len(s))
	}
}

// Promise 13.3: a disk that has no room for the state refuses it, in bytes or in files; the state file and what is held stay, and a later Save is taken.
func TestSaveSpace(t *testing.T) {
	x := newNode(t, 300, 10000)
	b := x.brick(0)
	must(t, b.Save())
	done(t, b, add("k", "v", 1))
	x.appended(1, "other")
	x.laid("state.new", "left")
	need := len(state(3, 1, "k", 1, "v"))
	x.laid("other", big("z", 300-x.d.Used()-need+len("left")+1))
	told(t, b.Save(), api.ErrSpace)
	if x.has("state.new") || x.file("state.0") != state(1, 0) {
		t.Errorf("%q", contents(x.d))
	}
	holds(t, b, 2)
	must(t, x.d.Cut("other", len(x.file("other"))-1))
	must(t, b.Save())
	holds(t, b, 3)

	x = newNode(t, 5000, 10000)
	b = x.brick(0)
	for i := range api.MaxFiles {
		x.laid("f"+strconv.Itoa(i), "")
	}
	told(t, b.Save(), api.ErrSpace)
	must(t, x.d.Remove("f0"))
	must(t, b.Save())
}

// filled is a brick with as many rows with values of one byte as asked for.
func filled(t *testing.T, x *node, rows int) *brick.Brick {
	t.Helper()
	b := x.brick(0)
	var ops []api.Op
	for i := range rows {
		ops = append(ops, add("k"+strconv.Itoa(i), "v", 1))
		if len(ops) == api.MaxOps || i == rows-1 {
			done(t, b, ops...)
			ops = nil
		}
	}
	return b
}

// Promise 13.3: a list of api.MaxItems fields is the longest that is written: two, three of a small row, five of a big one.
func TestSaveMostFields(t *testing.T) {
	x := newNode(t, api.MaxBytes, 10000)
	b := filled(t, x, 1363)
	done(t, b, add("big", big("b", 64), 1))
	must(t, b.Save())
	seen(b).is(t, x.brick(0))
	was := x.file("state.0")
	x.laid("state.new", "left")
	done(t, b, set("k5", big("c", 64), 2))
	held := b.Held()
	x.appended(2, "other")
	told(t, b.Save(), api.ErrLong)
	if x.file("state.0") != was || x.has("state.new") {
		t.Error(x.d.Names())
	}
	holds(t, b, held)
	isLive(t, b, at(1, 0, 64), at(1, 72, 64))
	done(t, b, remove("k7"))
	must(t, b.Save())
	holds(t, b, held+2)
	seen(b).is(t, x.brick(0))
	done(t, b, add("one", "", 1), add("two", "", 1))
	told(t, b.Save(), api.ErrLong)
}

// Promise 13.3: bytes of api.MaxFrame are the most that are written.
func TestSaveMostBytes(t *testing.T) {
	for _, over := range []int{0, 1} {
		x := newNode(t, api.MaxBytes, 10000)
		b := x.brick(0)
		done(t, b, add("x", "v", 1), add("y", "v", 1), add("z", "v", 1))
		for i := 0; bytesOf(b, x) < api.MaxFrame-140; i++ {
			done(t, b, add(strconv.Itoa(10000+i)+big("k", 59), big("v", 63), 1))
		}
		var ops []api.Op
		lack := api.MaxFrame + over - bytesOf(b, x)
		for _, key := range []string{"x", "y", "z"} {
			more := min(lack, 62)
			ops = append(ops, set(key, big("v", 1+more), 2))
			lack -= more
		}
		done(t, b, ops...)
		if n := bytesOf(b, x); n != api.MaxFrame+over {
			t.Fatal(n)
		}
		if e := b.Save(); over == 0 {
			must(t, e)
			seen(b).is(t, x.brick(0))
		} else {
			told(t, e, api.ErrLong)
		}
	}
}

// bytesOf is how many bytes the list of a brick's state has, if all its rows are small.
func bytesOf(b *brick.Brick, x *node) int {
	rows := b.Rows(api.Span{})
	n := len(list(x.w.Next(), len(rows)))
	for _, r := range rows {
		n += len(list(r.Key, r.Stamp, r.Val))
	}
	return n
}

// Promise 13.3: each row as it was written has a place of its own, be its value that of another one, or of the one that it took the place of.
func TestPlacesOfTheirOwn(t *testing.T) {
	x := newNode(t, 20000, 10000)
	b := x.brick(0)
	q := big("q", 64)
	done(t, b, add("b", q, 1), add("a", q, 1), add("c", "small", 1))
	isLive(t, b)
	must(t, b.Save())
	isLive(t, b, at(1, 0, 64), at(1, 72, 64))
	done(t, b, set("a", q, 2))
	isLive(t, b, at(1, 72, 64))
	must(t, b.Save())
	isLive(t, b, at(1, 144, 64), at(1, 72, 64))
	seen(b).is(t, x.brick(0))
	done(t, b, set("c", big("c", 100), 2))
	isLive(t, b, at(1, 144, 64), at(1, 72, 64))
	must(t, b.Save())
	must(t, b.Save())
	isLive(t, b, at(1, 144, 64), at(1, 72, 64), at(1, 216, 100))
	if n, e := x.v.Size(1); n != 216+108 || e != api.OK {
		t.Error(n, e)
	}
	seen(b).is(t, x.brick(0))
}

// Promise 13.3: behind each request a row that is not there any more, by key, stamp and value, has no place any more; one that is there keeps its place.
func TestPlacesGo(t *testing.T) {
	q, p, o := big("q", 64), at(1, 0, 64), at(1, 72, 80)
	for i, c := range []struct {
		requests []api.Request
		live     []api.Place
	}{
		{[]api.Request{asked(get("k"))}, []api.Place{o, p}},
		{[]api.Request{asked(get("j"), many("", 5))}, []api.Place{o, p}},
		{[]api.Request{asked(add("l", q, 1))}, []api.Place{o, p}},
		{[]api.Request{asked(add("k", q, 9))}, []api.Place{o, p}},
		{[]api.Request{asked(replace("k", q, 5))}, []api.Place{o, p}},
		{[]api.Request{asked(remove("k"), get("k"))}, []api.Place{o, p}},
		{[]api.Request{asked(remove("k"), add("k", q, 5))}, []api.Place{o, p}},
		{[]api.Request{asked(replace("k", "v", 6), remove("k"), add("k", q, 5), get("k"))}, []api.Place{o, p}},
		{[]api.Request{asked(remove("k"))}, []api.Place{o}},
		{[]api.Request{asked(remove("j"))}, []api.Place{p}},
		{[]api.Request{asked(remove("j"), remove("k"))}, nil},
		{[]api.Request{asked(remove("k")), asked(add("k", q, 5))}, []api.Place{o}},
		{[]api.Request{asked(replace("k", q, 6))}, []api.Place{o}},
		{[]api.Request{asked(set("k", "small", 6))}, []api.Place{o}},
		{[]api.Request{asked(remove("k"), add("k", q, 4))}, []api.Place{o}},
		{[]api.Request{asked(remove("k"), add("k", big("r", 64), 5))}, []api.Place{o}},
		{[]api.Request{asked(remove("k"), add("k", "", 5))}, []api.Place{o}},
		{[]api.Request{asked(remove("k"), add("k", q, 5), replace("k", q, 6))}, []api.Place{o}},
	} {
		x := newNode(t, 20000, 10000)
		b := x.brick(0)
		// What lies first in the file need not have the first key.
		done(t, b, add("k", q, 5))
		must(t, b.Save())
		done(t, b, add("j", big("j", 80), 1))
		must(t, b.Save())
		for _, r := range c.requests {
			_, e := b.Do(r)
			must(t, e)
		}
		if l := b.Live(); !slices.Equal(l, c.live) {
			t.Error(i, l, c.live)
		}
		seen(b).is(t, x.brick(0))
	}
}
