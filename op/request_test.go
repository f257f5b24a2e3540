package op_test

import (
	"math"
	"slices"
	"strings"
	"testing"
	"unsafe"

	"skylark/api"
	"skylark/op"
)

// noRequest fails unless Decode tells that error, and nothing beside it.
func noRequest(t *testing.T, b string, want api.Errno) {
	t.Helper()
	if r, e := op.Decode(b); e != want || !sameRequest(r, api.Request{}) {
		t.Errorf("%.80q: %+.60v %v, not %v", b, r, e, want)
	}
}

// Promise 8.2: the bytes of requests, the document's example first.
func TestRequestSamples(t *testing.T) {
	for _, x := range []struct {
		r api.Request
		b string
	}{
		{request(api.Op{Kind: api.OGet, Key: "k"}), "N\x01\x03N\x01\x01N\x01\x01N\x01\x05T\x01\x01kT\x00N\x00N\x00N\x00"},
		{
			api.Request{Client: 0, Seq: 256, Ops: []api.Op{{Kind: api.OMany, Most: 100}}},
			"N\x00N\x02\x00\x01N\x01\x01N\x01\x06T\x00T\x00N\x00N\x00N\x01\x64",
		},
		{
			api.Request{Client: 1000, Seq: api.MaxIndex, Ops: []api.Op{{Kind: api.OSet, Key: "ab", Val: "\x00v", Stamp: 9, Test: 8}, {Kind: api.OAdd, Key: "T", Val: "", Stamp: api.MaxStamp}}},
			"N\x02\xe8\x03N\x03\x00\x00\x10N\x01\x02" +
				"N\x01\x03T\x01\x02abT\x01\x02\x00vN\x01\x09N\x01\x08N\x00" +
				"N\x01\x01T\x01\x01TT\x00N\x06\x00\x00\x00\x00\x00\x01N\x00N\x00",
		},
	} {
		if b, e := op.Encode(x.r); b != x.b || e != api.OK {
			t.Errorf("%+.60v: %q %v", x.r, b, e)
		}
		if r, e := op.Decode(x.b); !sameRequest(r, x.r) || e != api.OK {
			t.Errorf("%q: %+.60v %v", x.b, r, e)
		}
	}
}

// Promises 8.2 and 8.3: requests at all edges, either way.
func TestGoodRequests(t *testing.T) {
	for _, r := range goodRequests() {
		b, e := op.Encode(r)
		if e != api.OK || b != requestBytes(r) {
			t.Errorf("%+.60v: %q %v", r, b, e)
		}
		if x, e := op.Decode(b); e != api.OK || !sameRequest(x, r) {
			t.Errorf("%+.60v: %+.60v %v", r, x, e)
		}
	}
}

// Promise 8.2: what may not be has no bytes, and its bytes, written nevertheless, are none.
func TestBadRequests(t *testing.T) {
	for _, r := range badRequests() {
		if b, e := op.Encode(r); b != "" || e != api.ErrBad {
			t.Errorf("%+.60v: %q %v", r, b, e)
		}
		noRequest(t, requestBytes(r), api.ErrBad)
	}
}

// full is a request whose bytes are just api.MaxBytes, and some more.
func full(more int) api.Request {
	x := api.Op{Kind: api.OSet, Key: "k", Val: long(2 * api.MaxVal), Stamp: 1}
	r := request(slices.Repeat([]api.Op{x}, api.MaxOps)...)
	over := len(requestBytes(r)) - api.MaxBytes
	r.Ops[7].Val = r.Ops[7].Val[:2*api.MaxVal-over+more]
	return r
}

// Promise 8.2: api.MaxBytes bytes may be, one more may not.
func TestRequestMostBytes(t *testing.T) {
	r := full(0)
	b, e := op.Encode(r)
	if len(b) != api.MaxBytes || e != api.OK || b != requestBytes(r) {
		t.Error(len(b), e)
	}
	if x, e := op.Decode(b); e != api.OK || !sameRequest(x, r) {
		t.Error(e)
	}
	for more := 1; more < 4; more++ {
		if b, e := op.Encode(full(more)); b != "" || e != api.ErrLong {
			t.Error(more, len(b), e)
		}
		noRequest(t, requestBytes(full(more)), api.ErrLong)
	}
	noRequest(t, strings.Repeat("X", api.MaxBytes), api.ErrBad)
	noRequest(t, strings.Repeat("X", api.MaxBytes+1), api.ErrLong)
	noRequest(t, strings.Repeat("N\x00", api.MaxBytes), api.ErrLong)
}

// Promise 8.2: a request that may not be is told so ahead of being too long.
func TestRequestBadAndLong(t *testing.T) {
	r := full(1)
	r.Ops[api.MaxOps-1].Most = 1
	if b, e := op.Encode(r); b != "" || e != api.ErrBad {
		t.Error(len(b), e)
	}
	r = full(1)
	r.Seq = 0
	if b, e := op.Encode(r); b != "" || e != api.ErrBad {
		t.Error(len(b), e)
	}
}

// Promise 8.2: bytes that are no list, or one of other fields, are no request.
func TestDecodeRefuses(t *testing.T) {
	for _, b := range []string{
		"", "X", "N", "N\x00", "T\x00", "k",
		list(3), list(3, 1), list(3, 1, 0), list(3, 1, 1), list(3, 1, 1, 5, "k"),
		list(3, 1, 0, 5, "k", "", 0, 0, 0),
		list(3, 1, 2, 5, "k", "", 0, 0, 0),
		list(3, 1, -1, 5, "k", "", 0, 0, 0),
		list(3, 1, math.MaxInt), list(3, 1, math.MinInt), list(3, 1, 1<<32+1, 5, "k", "", 0, 0, 0),
		list(3, 1, math.MaxInt, 5, "k", "", 0, 0, 0),
		list(3, 1, 1, 5, "k", "", 0, 0, 0, 0),
		list(3, 1, 1, 5, "k", "", 0, 0, 0, ""),
		list(3, 1, 1, 5, "k", "", 0, 0, 0, 5, "k", "", 0, 0, 0),
		list(3, 1, 1, 5, "k", 0, "", 0, 0),
		list(3, 1, 1, "k", 5, "", 0, 0, 0),
		list(1, 3, 1, 1, 5, "k", "", 0, 0, 0),
		list(3, 1, 1, 5, "k", "", 0, 0, 0) + "X",
		list(3, 1, 1, 5, "k", "", 0, 0, 0) + "N",
		"N\x02\x03\x00" + list(1, 1, 5, "k", "", 0, 0, 0),
		"N\x09" + list(3, 1, 1, 5, "k", "", 0, 0, 0),
	} {
		noRequest(t, b, api.ErrBad)
	}
}

// Promise 8.2: each field left out, put twice, or of the other kind makes it no request, and so does each beginning.
func TestDecodeBrokenFields(t *testing.T) {
	fields := []any{3, 1, 2, 5, "k", "", 0, 7, 0, 3, "j", "val", 9, 8, 0}
	whole := list(fields...)
	if _, e := op.Decode(whole); e != api.OK {
		t.Fatal(e)
	}
	for i, f := range fields {
		noRequest(t, list(slices.Delete(slices.Clone(fields), i, i+1)...), api.ErrBad)
		noRequest(t, list(slices.Insert(slices.Clone(fields), i, f)...), api.ErrBad)
		other := slices.Clone(fields)
		if _, ok := f.(int); ok {
			other[i] = ""
		} else {
			other[i] = 0
		}
		noRequest(t, list(other...), api.ErrBad)
	}
	for n := range len(whole) {
		noRequest(t, whole[:n], api.ErrBad)
	}
}

// Promise 8.2: a list of more than api.MaxItems fields is no request; ErrLong is told of more than api.MaxBytes bytes alone.
func TestDecodeManyFields(t *testing.T) {
	good := list(3, 1, 1, 5, "k", "", 0, 0, 0)
	for _, many := range []int{api.MaxItems - 9, api.MaxItems - 8, api.MaxItems, 2 * api.MaxItems} {
		noRequest(t, good+strings.Repeat("N\x00", many), api.ErrBad)
		noRequest(t, strings.Repeat("N\x00", many), api.ErrBad)
		noRequest(t, strings.Repeat("T\x00", many), api.ErrBad)
	}
}

// Rule R4: a request that is handed in stays as it is, behind its length too, and what is answered is new memory.
func TestRequestMemory(t *testing.T) {
	room := []api.Op{{Kind: api.OSet, Key: "k", Val: "v", Stamp: 1}, {Kind: api.OGet, Key: "j"}, {Kind: 99, Key: "x"}}
	was := slices.Clone(room)
	b, e := op.Encode(request(room[:2]...))
	if e != api.OK || !slices.Equal(room, was) {
		t.Fatal(room, e)
	}
	one, _ := op.Decode(b)
	other, _ := op.Decode(b)
	if unsafe.StringData(one.Ops[0].Key) == unsafe.StringData(other.Ops[0].Key) {
		t.Error("the key is shared")
	}
	clear(one.Ops[:cap(one.Ops)])
	if !sameRequest(other, request(room[:2]...)) {
		t.Error(other)
	}
}
