package ballot_test

import (
	"math"
	"math/rand"
	"testing"

	"skylark/api"
	"skylark/ballot"
)

// Promise 15.1: no disk, ahead of a wrong number of nodes; and numbers of nodes at their edges.
func TestOpenArguments(t *testing.T) {
	for _, nodes := range []int{3, 0, -1, api.MaxNodes + 1} {
		if b, e := ballot.Open(nil, nodes); b != nil || e != api.ErrNone {
			t.Error(nodes, b, e)
		}
	}
	for _, nodes := range []int{0, -1, api.MaxNodes + 1, math.MinInt, math.MaxInt} {
		refused(t, newDisk(t, 100), nodes, api.ErrRange)
		refused(t, with(t, "zzzzzzzz"), nodes, api.ErrRange)
	}
	for _, nodes := range []int{1, 2, api.MaxNodes} {
		of(0, -1).is(t, opened(t, newDisk(t, 0), nodes))
	}
}

// Promise 15.1: without a file, and of one without bytes, nothing is read; no file is made, and the disk is asked for nothing.
func TestOpenNothing(t *testing.T) {
	d := newDisk(t, 100)
	must(t, d.Append("ballots", "zzzzzzzz"))
	must(t, d.Fuse(0))
	of(0, -1).is(t, opened(t, d, 3))
	onDisk(t, d, "ballots", "zzzzzzzz")
	of(0, -1).is(t, opened(t, with(t, ""), 3))
}

// Promise 15.1: what files that may be tell.
func TestOpenReads(t *testing.T) {
	for _, x := range []struct {
		file string
		want view
	}{
		{stand(1, -1), of(1, -1)},
		{stand(1, -1) + stand(1, 0), of(1, 0)},
		{stand(1, 2), of(1, 2)},
		{stand(1, 2) + stand(1, 2), of(1, 2)},
		{stand(1, -1) + stand(1, -1) + stand(1, 1), of(1, 1)},
		{stand(1, 2) + stand(5, -1), of(5, -1)},
		{stand(1, 2) + stand(5, 0), of(5, 0)},
		{stand(api.MaxTerm, 1), of(api.MaxTerm, 1)},
		{stand(api.MaxTerm, -1) + put(api.MaxTerm, "x"), of(api.MaxTerm, -1, entry(api.MaxTerm, "x"))},
		{stand(3, -1) + put(1, "a") + put(1, "") + put(3, "b"), of(3, -1, entry(1, "a"), entry(1, ""), entry(3, "b"))},
		{stand(3, -1) + put(3, long(4096)), of(3, -1, entry(3, long(4096)))},
		{stand(3, -1) + put(1, "a") + put(2, "b") + put(3, "c") + gone(2), of(3, -1, entry(1, "a"))},
		{stand(3, -1) + put(1, "a") + put(2, "b") + gone(2) + put(1, "c"), of(3, -1, entry(1, "a"), entry(1, "c"))},
		{stand(3, -1) + put(2, "a") + put(2, "b") + gone(1) + put(1, "c") + stand(3, 0), of(3, 0, entry(1, "c"))},
		{stand(3, -1) + put(2, "a") + gone(1), of(3, -1)},
		{stand(3, -1) + put(2, "a") + gone(1) + put(2, "a") + gone(1) + put(2, "b"), of(3, -1, entry(2, "b"))},
		{stand(1, 0) + put(1, "a") + stand(2, -1) + put(1, "b") + put(2, "c"), of(2, -1, entry(1, "a"), entry(1, "b"), entry(2, "c"))},
	} {
		d := with(t, x.file)
		must(t, d.Fuse(0))
		x.want.is(t, opened(t, d, 3))
		onDisk(t, d, "ballot", x.file)
	}
}

// Promise 15.1: a vote is for one of the nodes, however many there are, or for none.
func TestOpenVotes(t *testing.T) {
	for nodes := 1; nodes <= api.MaxNodes; nodes++ {
		for vote := -3; vote < api.MaxNodes+2; vote++ {
			if d := with(t, stand(4, vote)); vote >= -1 && vote < nodes {
				of(4, vote).is(t, opened(t, d, nodes))
			} else {
				refused(t, d, nodes, api.ErrCorrupt)
			}
		}
		for _, vote := range []int{math.MinInt, math.MaxInt, 1 << 32, -1 << 32} {
			refused(t, with(t, stand(4, vote)), nodes, api.ErrCorrupt)
		}
	}
}

// Promise 15.1: lists that can't come in their place: a term that falls, or that is none, a vote that changes, an entry that can't be appended, or of a term above, a number that no entry has. What comes behind does not mend them.
func TestOpenCorruptOrder(t *testing.T) {
	begun := stand(5, 2) + put(2, "a") + put(4, "b")
	of(5, 2, entry(2, "a"), entry(4, "b")).is(t, opened(t, with(t, begun), 3))
	for _, wrong := range []string{
		stand(4, -1), stand(4, 2), stand(0, -1), stand(-1, -1), stand(math.MinInt, -1),
		stand(api.MaxTerm+1, -1), stand(math.MaxInt, -1), stand(1<<32+5, -1),
		stand(5, -1), stand(5, 0), stand(5, 1), stand(5, 3), stand(6, 3), stand(6, -2),
		put(3, "c"), put(1, "c"), put(0, "c"), put(-1, "c"), put(6, "c"), put(api.MaxTerm+1, "c"), put(math.MaxInt, "c"), put(math.MinInt, "c"),
		put(4, long(4097)), put(5, long(60000)),
		gone(0), gone(3), gone(4), gone(-1), gone(math.MinInt), gone(math.MaxInt), gone(1<<32 + 1),
	} {
		for _, behind := range []string{"", "z", stand(9, 1), put(5, "d"), gone(1), stand(9, 1) + gone(1)} {
			refused(t, with(t, begun+wrong+behind), 3, api.ErrCorrupt)
		}
	}
	for _, wrong := range []string{put(1, "a"), put(0, "a"), gone(1), gone(0), stand(-1, -1), stand(api.MaxTerm+1, -1)} {
		refused(t, with(t, wrong), 3, api.ErrCorrupt)
	}
	refused(t, with(t, stand(5, -1)+put(5, "a")+gone(1)+gone(1)), 3, api.ErrCorrupt)
}

// Promise 15.1: the term 0 is none that a list can tell, whatever its vote, be it the first list or a later one, and whatever comes behind; the ballot's own 0 at first is that no list told one.
func TestOpenTermZero(t *testing.T) {
	for _, nodes := range []int{1, 3, api.MaxNodes} {
		for vote := -2; vote <= nodes; vote++ {
			zero := stand(0, vote)
			for _, behind := range []string{"", "z", zero, stand(1, -1), stand(1, 0), stand(api.MaxTerm, 0), put(1, "a"), gone(1)} {
				refused(t, with(t, zero+behind), nodes, api.ErrCorrupt)
				refused(t, with(t, stand(1, -1)+zero+behind), nodes, api.ErrCorrupt)
			}
			for n := range len(zero) {
				d := with(t, zero[:n])
				of(0, -1).is(t, opened(t, d, nodes))
				onDisk(t, d, "ballot", "")
			}
		}
	}
	d := with(t, stand(0, -1))
	must(t, d.Fuse(0))
	refused(t, d, 3, api.ErrCorrupt)
}

// Promise 15.1: a frame of anything else but one of the three lists, be it the first or a later one.
func TestOpenNoSuchList(t *testing.T) {
	begun := stand(5, -1) + put(2, "a")
	for _, wrong := range []string{
		framed(""), framed("z"), framed(number(1)[:1]), framed(number(1) + number(6) + number(2) + "N"), framed("N\x01\x00"),
		list(0), list(1), list(2), list(3), list(4), list("a"), list(""),
		list(1, 6), list(1, 6, -1, 0), list(1, 6, "1"), list(1, "6", -1), list("1", 6, -1), list(1, 6, -1, ""), list(1, "", ""),
		list(2, 2), list(2, 2, "b", 0), list(2, 2, 7), list(2, "2", "b"), list("2", 2, "b"), list(2, 2, "b", "c"), list(2, 2, "b", 2, "c"),
		list(3, 1, 1), list(3, "1"), list("3", 1), list(3, 1, ""), list(3, 1, 0),
		list(0, 6, -1), list(0, 2, "b"), list(0, 1), list(4, 6, -1), list(4, 2, "b"), list(4, 1), list(-1, 6, -1), list(-2, 2, "b"), list(1<<32+1, 6, -1), list(math.MaxInt, 1),
	} {
		refused(t, with(t, wrong), 3, api.ErrCorrupt)
		refused(t, with(t, begun+wrong), 3, api.ErrCorrupt)
		refused(t, with(t, begun+wrong+stand(9, 1)), 3, api.ErrCorrupt)
	}
}

// sample is a file, in frames, and what each of its beginnings tells.
func sample() (frames []string, views []view) {
	a, b, c, x := entry(1, "a"), entry(1, "bb"), entry(1, ""), entry(3, "x")
	frames = []string{stand(1, -1), stand(1, 2), puts(a), puts(b), puts(c), stand(4, -1), gone(2), puts(x)}
	return frames, []view{of(0, -1), of(1, -1), of(1, 2), of(1, 2, a), of(1, 2, a, b), of(1, 2, a, b, c), of(4, -1, a, b, c), of(4, -1, a), of(4, -1, a, x)}
}

// Promise 15.1: what stands behind the last whole frame is cut off, at whichever byte the file ends, if there is something; with what the disk refuses.
func TestOpenTorn(t *testing.T) {
	frames, views := sample()
	whole := ""
	for i, frame := range frames {
		for n := range len(frame) {
			d := with(t, whole+frame[:n])
			must(t, d.Fuse(0))
			if n > 0 {
				refused(t, d, 3, api.ErrDown)
				must(t, d.Crash(nil))
				must(t, d.Fuse(1))
			}
			b := opened(t, d, 3)
			views[i].is(t, b)
			onDisk(t, d, "ballot", whole)
			told(t, d.Sync(), api.ErrDown)
			views[i].is(t, opened(t, d, 3))
		}
		whole += frame
	}
	views[len(frames)].is(t, opened(t, with(t, whole), 3))
}

// Promise 15.1: frames that end otherwise than early are corrupt, and nothing is cut off; what is corrupt is told ahead of a disk that is down.
func TestOpenEndsOtherwise(t *testing.T) {
	wrongSum := []byte(stand(7, 1))
	wrongSum[len(wrongSum)-1]++
	begun := stand(5, -1)
	for _, end := range []string{"zzzz", "zzzzzzzz", "\x01\x00\x01\x00", "\xff\xff\xff\xff", "\x00\x00\x00\x00\x00\x00\x00\x00", string(wrongSum), string(wrongSum) + stand(8, 1)} {
		refused(t, with(t, end), 3, api.ErrCorrupt)
		d := with(t, begun+end)
		must(t, d.Fuse(0))
		refused(t, d, 3, api.ErrCorrupt)
	}
	d := with(t, stand(5, -1)+stand(4, -1)+"z")
	must(t, d.Fuse(0))
	refused(t, d, 3, api.ErrCorrupt)
	for _, end := range []string{"z", "zzz", "\x00\x00\x01\x00", "\x00\x00\x01\x00zzz", "\x00\x00\x00\x00\x00\x00\x00"} {
		d := with(t, begun+end)
		of(5, -1).is(t, opened(t, d, 3))
		onDisk(t, d, "ballot", begun)
	}
}

// Promise 15.1: a byte that is another one is never passed over: the file is corrupt, or ends there.
func TestOpenChanged(t *testing.T) {
	frames, views := sample()
	whole := ""
	for _, frame := range frames {
		whole += frame
	}
	for at := range len(whole) {
		for _, by := range []byte{1, 4, 64, 128} {
			bytes := []byte(whole)
			bytes[at] ^= by
			b, e := ballot.Open(with(t, string(bytes)), 3)
			if e == api.ErrCorrupt {
				continue
			}
			must(t, e)
			n := 0
			for end := len(frames[0]); end <= at; end += len(frames[n]) {
				n++
			}
			views[n].is(t, b)
		}
	}
}

// Promise 15.1: Open syncs nothing, and leaves other files alone; what it cuts off is gone at once.
func TestOpenSyncsNothing(t *testing.T) {
	d := with(t, stand(5, -1))
	must(t, d.Append("ballot", stand(5, 1)+"z"))
	must(t, d.Append("other", "x"))
	of(5, 1).is(t, opened(t, d, 3))
	onDisk(t, d, "ballot", stand(5, -1)+stand(5, 1), "other", "x")
	must(t, d.Crash([]int{-1, -1}))
	onDisk(t, d, "ballot", stand(5, -1), "other", "")
	of(5, -1).is(t, opened(t, d, 3))
}

// reader is the file's rules by the chapter's words, frame by frame, without package rlog.
type reader struct {
	view
	nodes int
	wrong bool
}

func (r *reader) stand(term, vote int) {
	r.wrong = r.wrong || term < 1 || term < r.term || term > 1<<30 || vote < -1 || vote >= r.nodes
	r.wrong = r.wrong || term == r.term && r.vote >= 0 && vote != r.vote
	r.term, r.vote = term, vote
}

func (r *reader) put(term int, data string) {
	r.wrong = r.wrong || term < 1 || term > 1<<30 || term > r.term || len(data) > 4096
	if n := len(r.entries); n > 0 {
		r.wrong = r.wrong || term < r.entries[n-1].Term
	}
	r.entries = append(r.entries, entry(term, data))
}

func (r *reader) gone(first int) {
	if r.wrong = r.wrong || first < 1 || first > len(r.entries); !r.wrong {
		r.entries = r.entries[:first-1]
	}
}

// Promise 15.1: drawn files, of lists that may follow one another and now and then of one that may not, are taken or refused as the chapter's words say.
func TestOpenDrawn(t *testing.T) {
	taken, corrupt := 0, 0
	for seed := range int64(4000) {
		draw := rand.New(rand.NewSource(seed))
		r := &reader{view: of(0, -1), nodes: 1 + draw.Intn(4)}
		bytes := ""
		for range draw.Intn(12) {
			switch draw.Intn(4) {
			case 0:
				term, vote := max(r.term+draw.Intn(3), 1), draw.Intn(r.nodes+1)-1
				if draw.Intn(12) == 0 {
					term, vote = term-draw.Intn(2), draw.Intn(r.nodes+3)-2
				} else if term == r.term && r.vote >= 0 {
					vote = r.vote
				}
				bytes += stand(term, vote)
				r.stand(term, vote)
			case 1, 2:
				term := draw.Intn(max(r.term, 0)+1) + draw.Intn(12)/11
				data := long(draw.Intn(3) + draw.Intn(40)/39*4095)
				if n := len(r.entries); n > 0 && draw.Intn(12) > 0 {
					term = max(term, r.entries[n-1].Term)
				}
				bytes += put(term, data)
				r.put(term, data)
			case 3:
				first := 1 + draw.Intn(len(r.entries)+1) - draw.Intn(12)/11
				bytes += gone(first)
				r.gone(first)
			}
		}
		d := with(t, bytes+"zz"[draw.Intn(3):])
		if r.wrong {
			corrupt++
			refused(t, d, r.nodes, api.ErrCorrupt)
		} else {
			taken++
			r.is(t, opened(t, d, r.nodes))
			onDisk(t, d, "ballot", bytes)
		}
		if t.Failed() {
			t.Fatal(seed)
		}
	}
	if taken < 500 || corrupt < 500 {
		t.Error(taken, corrupt)
	}
}

// Promise P1: whatever bytes the file has, Open ends.
func TestOpenAnyBytes(t *testing.T) {
	draw := rand.New(rand.NewSource(1))
	for range 5000 {
		body := make([]byte, draw.Intn(30))
		for i := range body {
			body[i] = "NT\x00\x01\x02\x03\xffa"[draw.Intn(8)]
		}
		b, e := ballot.Open(with(t, stand(2, -1)+framed(string(body))+string(body)), 3)
		if (b == nil) != (e != api.OK) || e != api.OK && e != api.ErrCorrupt {
			t.Fatal(b, e)
		}
	}
}
