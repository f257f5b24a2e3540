package op_test

import (
	"math/rand"
	"testing"

	"skylark/api"
	"skylark/op"
)

// oneOrNone fails if b is the bytes of a request or a reply, but not those that it is given, or of both, or if a refusal is not the one that b asks for.
func oneOrNone(t *testing.T, b string) {
	t.Helper()
	r, e := op.Decode(b)
	p, f := op.DecodeReply(b)
	if e == api.OK && f == api.OK {
		t.Fatalf("%q: both", b)
	}
	if e == api.OK {
		if again, e := op.Encode(r); again != b || e != api.OK {
			t.Fatalf("%q: %+.60v: %q %v", b, r, again, e)
		}
	} else if e != api.ErrBad || !sameRequest(r, api.Request{}) {
		t.Fatalf("%q: %+.60v %v", b, r, e)
	}
	if f == api.OK {
		if again, f := op.EncodeReply(p); again != b || f != api.OK {
			t.Fatalf("%q: %+.60v: %q %v", b, p, again, f)
		}
	} else if f != api.ErrBad || !sameReply(p, api.Reply{}) {
		t.Fatalf("%q: %+.60v %v", b, p, f)
	}
}

// Promise 8.3: what is encoded is decoded, and is not the other one too.
func TestEncodedIsDecoded(t *testing.T) {
	r := rand.New(rand.NewSource(8))
	for range 3000 {
		x, y := drawnRequest(r), drawnReply(r)
		bx, ex := op.Encode(x)
		by, ey := op.EncodeReply(y)
		if ex != api.OK || ey != api.OK || bx != requestBytes(x) || by != replyBytes(y) {
			t.Fatalf("%+.60v %v %+.60v %v", x, ex, y, ey)
		}
		if again, e := op.Decode(bx); e != api.OK || !sameRequest(again, x) {
			t.Fatalf("%+.60v: %+.60v %v", x, again, e)
		}
		if again, e := op.DecodeReply(by); e != api.OK || !sameReply(again, y) {
			t.Fatalf("%+.60v: %+.60v %v", y, again, e)
		}
		noReply(t, bx, api.ErrBad)
		noRequest(t, by, api.ErrBad)
		noRequest(t, bx+bx, api.ErrBad)
		noReply(t, by+by, api.ErrBad)
	}
}

// Promise 8.3 and P1: bytes of requests and replies, some of them changed, are one of these or none.
func TestChangedBytesAreOneOrNone(t *testing.T) {
	r := rand.New(rand.NewSource(83))
	for range 15000 {
		s := requestBytes(api.Request{Client: r.Intn(4), Seq: 1 + r.Intn(4), Ops: []api.Op{drawnOp(r), drawnOp(r)}})
		if r.Intn(2) == 0 {
			s = replyBytes(reply(drawnResult(r), drawnResult(r)))
		}
		b := []byte(s)
		for range 1 + r.Intn(3) {
			b[r.Intn(len(b))] = byte(r.Intn(256))
		}
		oneOrNone(t, string(b))
	}
}

// drawnFields are those of a list that is often nearly a request or a reply.
func drawnFields(r *rand.Rand) []any {
	fields := []any{r.Intn(3), r.Intn(3), r.Intn(3)}
	for range 1 + r.Intn(12) {
		switch r.Intn(5) {
		case 0:
			fields = append(fields, []string{"", "k"}[r.Intn(2)])
		case 1:
			fields = append(fields, r.Intn(7))
		case 2:
			fields = append(fields, 0)
		case 3:
			fields = append(fields, 1+r.Intn(6), "k", "", r.Intn(2), 0, 0)
		case 4:
			fields = append(fields, 0, 1, 0, r.Intn(2), "", 0)
		}
	}
	return fields
}

// Promise 8.3 and P1: lists of drawn fields are one request, one reply, or none, and some are each of these.
func TestDrawnListsAreOneOrNone(t *testing.T) {
	r := rand.New(rand.NewSource(84))
	requests, replies := 0, 0
	for range 200000 {
		b := list(drawnFields(r)...)
		oneOrNone(t, b)
		if _, e := op.Decode(b); e == api.OK {
			requests++
		}
		if _, e := op.DecodeReply(b); e == api.OK {
			replies++
		}
	}
	if requests == 0 || replies == 0 {
		t.Error(requests, replies)
	}
}
