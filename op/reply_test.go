package op_test

import (
	"math"
	"slices"
	"strings"
	"testing"
	"unsafe"

	"skylark/api"
	"skylark/op"
)

// noReply fails unless DecodeReply tells that error, and nothing beside it.
func noReply(t *testing.T, b string, want api.Errno) {
	t.Helper()
	if r, e := op.DecodeReply(b); e != want || !sameReply(r, api.Reply{}) {
		t.Errorf("%.80q: %+.60v %v, not %v", b, r, e, want)
	}
}

// Promise 8.2: the bytes of replies.
func TestReplySamples(t *testing.T) {
	for _, x := range []struct {
		r api.Reply
		b string
	}{
		{reply(api.Result{}), "N\x01\x03N\x01\x01N\x00N\x00N\x01\x01N\x00N\x00T\x00N\x00"},
		{refusal(2, api.ErrMissing), "N\x01\x03N\x01\x01N\x01\x02N\x01\x5bN\x00"},
		{refusal(-1, -256), "N\x01\x03N\x01\x01N\x08\xff\xff\xff\xff\xff\xff\xff\xffN\x08\x00\xff\xff\xff\xff\xff\xff\xffN\x00"},
		{
			api.Reply{Client: 0, Seq: api.MaxIndex, Results: []api.Result{{Code: 300, Stamp: 4}, {Val: "v", Rows: []api.Row{{Key: "ab", Stamp: 1, Val: "w"}, {Key: "N", Stamp: api.MaxStamp}}}}},
			"N\x00N\x03\x00\x00\x10N\x00N\x00N\x01\x02" +
				"N\x02\x2c\x01N\x01\x04T\x00N\x00" +
				"N\x00N\x00T\x01\x01vN\x01\x02" +
				"T\x01\x02abN\x01\x01T\x01\x01w" +
				"T\x01\x01NN\x06\x00\x00\x00\x00\x00\x01T\x00",
		},
	} {
		if b, e := op.EncodeReply(x.r); b != x.b || e != api.OK {
			t.Errorf("%+.60v: %q %v", x.r, b, e)
		}
		if r, e := op.DecodeReply(x.b); !sameReply(r, x.r) || e != api.OK {
			t.Errorf("%q: %+.60v %v", x.b, r, e)
		}
	}
}

// Promises 8.2 and 8.3: replies at all edges, either way.
func TestGoodReplies(t *testing.T) {
	for _, r := range goodReplies() {
		b, e := op.EncodeReply(r)
		if e != api.OK || b != replyBytes(r) {
			t.Errorf("%+.60v: %q %v", r, b, e)
		}
		if x, e := op.DecodeReply(b); e != api.OK || !sameReply(x, r) {
			t.Errorf("%+.60v: %+.60v %v", r, x, e)
		}
	}
}

// Promise 8.2: what may not be has no bytes, and its bytes, written nevertheless, are none.
func TestBadReplies(t *testing.T) {
	for _, r := range badReplies() {
		if b, e := op.EncodeReply(r); b != "" || e != api.ErrBad {
			t.Errorf("%+.60v: %q %v", r, b, e)
		}
		want := api.ErrBad
		if fieldsIn(r) > api.MaxItems {
			want = api.ErrLong
		}
		noReply(t, replyBytes(r), want)
	}
}

// fullReply is a reply whose bytes are just api.MaxBytes, and some more.
func fullReply(more int) api.Reply {
	x := api.Result{Val: long(2 * api.MaxVal)}
	r := reply(slices.Repeat([]api.Result{x}, api.MaxOps)...)
	over := len(replyBytes(r)) - api.MaxBytes
	r.Results[9].Val = r.Results[9].Val[:2*api.MaxVal-over+more]
	return r
}

// Promise 8.2: api.MaxBytes bytes may be, one more may not.
func TestReplyMostBytes(t *testing.T) {
	r := fullReply(0)
	b, e := op.EncodeReply(r)
	if len(b) != api.MaxBytes || e != api.OK || b != replyBytes(r) {
		t.Error(len(b), e)
	}
	if x, e := op.DecodeReply(b); e != api.OK || !sameReply(x, r) {
		t.Error(e)
	}
	for more := 1; more < 4; more++ {
		if b, e := op.EncodeReply(fullReply(more)); b != "" || e != api.ErrLong {
			t.Error(more, len(b), e)
		}
		noReply(t, replyBytes(fullReply(more)), api.ErrLong)
	}
	noReply(t, strings.Repeat("X", api.MaxBytes), api.ErrBad)
	noReply(t, strings.Repeat("X", api.MaxBytes+1), api.ErrLong)
	noReply(t, strings.Repeat("T\x00", api.MaxBytes), api.ErrLong)
}

// Promise 8.2: api.MaxItems fields may be, one more may not, however few bytes they have.
func TestReplyMostFields(t *testing.T) {
	r := filled(32, 1321)
	if fieldsIn(r) != api.MaxItems || fieldsIn(filled(30, 1324)) != api.MaxItems+1 {
		t.Fatal(fieldsIn(r))
	}
	b, e := op.EncodeReply(r)
	if e != api.OK || b != replyBytes(r) {
		t.Error(len(b), e)
	}
	if x, e := op.DecodeReply(b); e != api.OK || !sameReply(x, r) {
		t.Error(e)
	}
	noReply(t, b+"N\x00", api.ErrLong)
	for _, r := range []api.Reply{filled(30, 1324), filled(32, 1322), filled(32, 3200)} {
		if b, e := op.EncodeReply(r); b != "" || e != api.ErrLong {
			t.Error(len(b), e)
		}
		b := replyBytes(r)
		if len(b) > api.MaxBytes {
			t.Error(len(b))
		}
		noReply(t, b, api.ErrLong)
	}
	noReply(t, strings.Repeat("N\x00", api.MaxItems), api.ErrBad)
	noReply(t, strings.Repeat("N\x00", api.MaxItems+1), api.ErrLong)
	noReply(t, "X"+strings.Repeat("N\x00", api.MaxItems+1), api.ErrBad)
}

// Promise 8.2: a reply that may not be is told so ahead of being too long.
func TestReplyBadAndLong(t *testing.T) {
	for _, long := range []api.Reply{filled(32, 3200), fullReply(1)} {
		r := long
		r.Client = 1001
		if b, e := op.EncodeReply(r); b != "" || e != api.ErrBad {
			t.Error(len(b), e)
		}
		r = long
		r.Fault.At = 1
		if b, e := op.EncodeReply(r); b != "" || e != api.ErrBad {
			t.Error(len(b), e)
		}
		r = long
		r.Results = slices.Clone(long.Results)
		r.Results[31].Code = 301
		if b, e := op.EncodeReply(r); b != "" || e != api.ErrBad {
			t.Error(len(b), e)
		}
	}
}

// Promise 8.2: bytes that are no list, or one of other fields, are no reply.
func TestDecodeReplyRefuses(t *testing.T) {
	for _, b := range []string{
		"", "X", "N", "N\x00", "T\x00",
		list(3), list(3, 1), list(3, 1, 0), list(3, 1, 0, 0), list(3, 1, 0, 0, 0), list(3, 1, 0, 0, 1), list(3, 1, 0, 5),
		list(3, 1, 0, 5, 0, 0), list(3, 1, 0, 5, 0, ""), list(3, 1, 0, 5, -1), list(3, 1, 0, 5, math.MaxInt), list(3, 1, 0, 5, math.MinInt),
		list(3, 1, 0, 5, 1, 0, 0, "", 0),
		list(3, 1, 0, 0, 0, 0, 0, "", 0),
		list(3, 1, 0, 0, 2, 0, 0, "", 0),
		list(3, 1, 0, 0, 1<<32+1, 0, 0, "", 0),
		list(3, 1, 0, 0, math.MaxInt, 0, 0, "", 0),
		list(3, 1, 0, 0, 1, 0, 0, "", 1),
		list(3, 1, 0, 0, 1, 0, 0, "", -1),
		list(3, 1, 0, 0, 1, 0, 0, "", 101),
		list(3, 1, 0, 0, 1, 0, 0, "", math.MaxInt),
		list(3, 1, 0, 0, 1, 0, 0, "", 0, "k", 1, "v"),
		list(3, 1, 0, 0, 1, 0, 0, "", 2, "k", 1, "v"),
		list(3, 1, 0, 0, 1, 0, 0, "", 0, 0),
		list(3, 1, 0, 0, 1, 0, 0, "", 0) + "X",
		list(3, 1, 0, 0, 1, 0, 0, "", 0) + "T",
		"N\x02\x03\x00" + list(1, 0, 0, 1, 0, 0, "", 0),
	} {
		noReply(t, b, api.ErrBad)
	}
}

// Promise 8.2: each field left out, put twice, or of the other kind makes it no reply, and so does each beginning.
func TestDecodeReplyBrokenFields(t *testing.T) {
	fields := []any{3, 1, 0, 0, 2, 90, 4, "val", 0, 0, 7, "", 2, "k", 5, "v", "j", 6, ""}
	whole := list(fields...)
	if _, e := op.DecodeReply(whole); e != api.OK {
		t.Fatal(e)
	}
	for i, f := range fields {
		noReply(t, list(slices.Delete(slices.Clone(fields), i, i+1)...), api.ErrBad)
		noReply(t, list(slices.Insert(slices.Clone(fields), i, f)...), api.ErrBad)
		other := slices.Clone(fields)
		if _, ok := f.(int); ok {
			other[i] = ""
		} else {
			other[i] = 0
		}
		noReply(t, list(other...), api.ErrBad)
	}
	for n := range len(whole) {
		noReply(t, whole[:n], api.ErrBad)
	}
}

// Rule R4: a reply that is handed in stays as it is, behind its length too, and what is answered is new memory, each list its own.
func TestReplyMemory(t *testing.T) {
	room := []api.Row{{Key: "k", Stamp: 1, Val: "v"}, {Key: "j", Stamp: 2}, {Stamp: -1}}
	results := []api.Result{{Rows: room[:2]}, {Rows: room[:1]}, {Code: -1}}
	r := reply(results[:2]...)
	b, e := op.EncodeReply(r)
	if e != api.OK || b != replyBytes(r) || room[2] != (api.Row{Stamp: -1}) || results[2].Code != -1 || len(results[0].Rows) != 2 {
		t.Fatal(room, results, e)
	}
	one, _ := op.DecodeReply(b)
	other, _ := op.DecodeReply(b)
	if unsafe.StringData(one.Results[0].Rows[0].Key) == unsafe.StringData(other.Results[0].Rows[0].Key) {
		t.Error("the key is shared")
	}
	first := one.Results[0].Rows
	clear(first[:cap(first)])
	if !slices.Equal(one.Results[1].Rows, room[:1]) {
		t.Error(one)
	}
	clear(one.Results[:cap(one.Results)])
	if !sameReply(other, r) {
		t.Error(other)
	}
}
