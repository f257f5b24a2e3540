package code_test

import (
	"math"
	"math/rand"
	"slices"
	"strings"
	"testing"

	"skylark/api"
	"skylark/code"
)

func number(n int64) api.Field { return api.Field{N: n} }

func text(s string) api.Field { return api.Field{Text: true, S: s} }

// samples are lists with the bytes that chapter 1 gives them.
func samples() []struct {
	l []api.Field
	b string
} {
	return []struct {
		l []api.Field
		b string
	}{
		{nil, ""},
		{[]api.Field{}, ""},
		{[]api.Field{number(math.MinInt64)}, "N\x08\x00\x00\x00\x00\x00\x00\x00\x80"},
		{[]api.Field{number(math.MinInt64 + 1)}, "N\x08\x01\x00\x00\x00\x00\x00\x00\x80"},
		{[]api.Field{number(-256)}, "N\x08\x00\xff\xff\xff\xff\xff\xff\xff"},
		{[]api.Field{number(-1)}, "N\x08\xff\xff\xff\xff\xff\xff\xff\xff"},
		{[]api.Field{number(0)}, "N\x00"},
		{[]api.Field{number(1)}, "N\x01\x01"},
		{[]api.Field{number(255)}, "N\x01\xff"},
		{[]api.Field{number(256)}, "N\x02\x00\x01"},
		{[]api.Field{number(65535)}, "N\x02\xff\xff"},
		{[]api.Field{number(65536)}, "N\x03\x00\x00\x01"},
		{[]api.Field{number(1<<56 - 1)}, "N\x07\xff\xff\xff\xff\xff\xff\xff"},
		{[]api.Field{number(1 << 56)}, "N\x08\x00\x00\x00\x00\x00\x00\x00\x01"},
		{[]api.Field{number(math.MaxInt64)}, "N\x08\xff\xff\xff\xff\xff\xff\xff\x7f"},
		{[]api.Field{text("")}, "T\x00"},
		{[]api.Field{text("ab")}, "T\x01\x02ab"},
		{[]api.Field{text("\x00")}, "T\x01\x01\x00"},
		{[]api.Field{text("N\x09\xff")}, "T\x01\x03N\x09\xff"},
		{[]api.Field{text(strings.Repeat("x", 255))}, "T\x01\xff" + strings.Repeat("x", 255)},
		{[]api.Field{text(strings.Repeat("x", 256))}, "T\x02\x00\x01" + strings.Repeat("x", 256)},
		{[]api.Field{number(0), number(1), number(256), number(-1), text("ab")}, "N\x00N\x01\x01N\x02\x00\x01N\x08\xff\xff\xff\xff\xff\xff\xff\xffT\x01\x02ab"},
		{[]api.Field{text(""), text("N"), number(78), text("T")}, "T\x00T\x01\x01NN\x01\x4eT\x01\x01T"},
	}
}

// Promises 1.1 and 1.2: the form, either way.
func TestSamples(t *testing.T) {
	for i, x := range samples() {
		if b, e := code.Encode(x.l); b != x.b || e != api.OK {
			t.Errorf("%d: Encode: %x %v", i, b, e)
		}
		if l, f := code.Decode(x.b); !slices.Equal(l, x.l) || f != (api.Fault{}) {
			t.Errorf("%d: Decode: %v %v", i, l, f)
		}
	}
}

// Promise 1.1: what Encode refuses, and which refusal comes first.
func TestEncodeRefuses(t *testing.T) {
	tooMany := make([]api.Field, api.MaxItems+1)
	tooManyAndBad := slices.Clone(tooMany)
	tooManyAndBad[0].S = "x"
	long := strings.Repeat("x", api.MaxBytes+1)
	for i, x := range []struct {
		l []api.Field
		e api.Errno
	}{
		{tooMany, api.ErrLong},
		{tooManyAndBad, api.ErrLong},
		{[]api.Field{{S: "x"}}, api.ErrShape},
		{[]api.Field{{N: 1, S: "x"}}, api.ErrShape},
		{[]api.Field{{Text: true, N: 1}}, api.ErrShape},
		{[]api.Field{{Text: true, N: -1, S: "x"}}, api.ErrShape},
		{[]api.Field{number(1), text("a"), {N: 1, S: "x"}}, api.ErrShape},
		{[]api.Field{text(long)}, api.ErrLong},
		{[]api.Field{text(long), {Text: true, N: 1}}, api.ErrShape},
		{[]api.Field{{S: long}}, api.ErrShape},
	} {
		if b, e := code.Encode(x.l); b != "" || e != x.e {
			t.Errorf("%d: %d bytes, %v, not %v", i, len(b), e, x.e)
		}
	}
}

// Promise 1.1: api.MaxItems fields may be.
func TestEncodeMostFields(t *testing.T) {
	b, e := code.Encode(make([]api.Field, api.MaxItems))
	if b != strings.Repeat("N\x00", api.MaxItems) || e != api.OK {
		t.Error(len(b), e)
	}
}

// Promise 1.1: api.MaxBytes bytes may be, one more may not, whichever fields they come from.
func TestEncodeMostBytes(t *testing.T) {
	const head = len("T\x03nnn")
	one := strings.Repeat("x", api.MaxBytes-head)
	b, e := code.Encode([]api.Field{text(one)})
	if len(b) != api.MaxBytes || e != api.OK || b[head:] != one {
		t.Error(len(b), e)
	}
	for i, l := range [][]api.Field{
		{text(one + "x")},
		{text(one[1:]), number(0)},
		{text(one), number(0)},
		{number(0), text(one)},
		{text(one), text("")},
	} {
		if b, e := code.Encode(l); b != "" || e != api.ErrLong {
			t.Error(i, len(b), e)
		}
	}
	for i, l := range [][]api.Field{
		{text(one[2:]), number(0)},
		{number(1), text(one[3:])},
		{text(one[2:]), text("")},
	} {
		if b, e := code.Encode(l); len(b) != api.MaxBytes || e != api.OK {
			t.Error(i, len(b), e)
		}
	}
}

// Promise 1.1 and P1: one long text in all fields is refused without being laid out.
func TestEncodeSharedText(t *testing.T) {
	l := slices.Repeat([]api.Field{text(strings.Repeat("x", 1<<26))}, api.MaxItems)
	if b, e := code.Encode(l); b != "" || e != api.ErrLong {
		t.Error(len(b), e)
	}
}

// R4: what is handed in stays as it is, behind its length too, and is not read there.
func TestEncodeLeavesList(t *testing.T) {
	room := []api.Field{number(1), text("a"), {N: 7, S: "none"}}
	was := slices.Clone(room)
	if b, e := code.Encode(room[:2]); b != "N\x01\x01T\x01\x01a" || e != api.OK {
		t.Errorf("%x %v", b, e)
	}
	if !slices.Equal(room, was) {
		t.Error(room)
	}
}

// Promise 1.2: each fault, at the beginning and behind other fields, with the place of its field.
func TestDecodeFaults(t *testing.T) {
	for i, x := range []struct {
		b string
		e api.Errno
	}{
		{"X", api.ErrForm},
		{"\x00", api.ErrForm},
		{"n\x00", api.ErrForm},
		{"\xceN", api.ErrForm},
		{"N", api.ErrEnd},
		{"T", api.ErrEnd},
		{"N\x09", api.ErrForm},
		{"T\x09", api.ErrForm},
		{"N\xff", api.ErrForm},
		{"N\x09\x01\x01\x01\x01\x01\x01\x01\x01\x01", api.ErrForm},
		{"N\x01", api.ErrEnd},
		{"T\x01", api.ErrEnd},
		{"N\x02\x01", api.ErrEnd},
		{"N\x02\x00", api.ErrEnd},
		{"N\x08\x00\x00\x00\x00\x00\x00\x00", api.ErrEnd},
		{"N\x01\x00", api.ErrForm},
		{"N\x02\x01\x00", api.ErrForm},
		{"N\x08\xff\xff\xff\xff\xff\xff\xff\x00", api.ErrForm},
		{"T\x01\x00", api.ErrForm},
		{"T\x02\x01\x00a", api.ErrForm},
		{"T\x01\x01", api.ErrEnd},
		{"T\x01\x02a", api.ErrEnd},
		{"T\x03\xff\xff\x03", api.ErrEnd},
		{"T\x03\x00\x00\x04", api.ErrEnd},
		{"T\x03\x01\x00\x04", api.ErrForm},
		{"T\x04\x00\x00\x00\x01", api.ErrForm},
		{"T\x05\x00\x00\x00\x00\x01", api.ErrForm},
		{"T\x08\xff\xff\xff\xff\xff\xff\xff\x7f", api.ErrForm},
		{"T\x08\x00\x00\x00\x00\x00\x00\x00\x80", api.ErrForm},
		{"T\x08\xff\xff\xff\xff\xff\xff\xff\xff", api.ErrForm},
	} {
		for _, front := range []string{"", "N\x00", "N\x02\x00\x01T\x01\x02ab"} {
			want := api.Fault{At: len(front), Code: x.e}
			if l, f := code.Decode(front + x.b); len(l) != 0 || f != want {
				t.Errorf("%d: %x behind %x: %v %v, not %v", i, x.b, front, l, f, want)
			}
		}
	}
}

// Promise 1.2: of two faults the first one is told.
func TestDecodeFirstFault(t *testing.T) {
	want := api.Fault{At: 2, Code: api.ErrForm}
	if l, f := code.Decode("N\x00XN\x01\x00N"); len(l) != 0 || f != want {
		t.Error(l, f)
	}
}

// Promise 1.2: more than api.MaxBytes bytes are refused ahead of what they say; just as many are not.
func TestDecodeMostBytes(t *testing.T) {
	full := "T\x03\xfb\xff\x03" + strings.Repeat("x", api.MaxBytes-5)
	l, f := code.Decode(full)
	if len(l) != 1 || f != (api.Fault{}) || l[0] != text(full[5:]) {
		t.Error(len(l), f)
	}
	for i, b := range []string{full + "x", strings.Repeat("X", api.MaxBytes+1)} {
		if l, f := code.Decode(b); len(l) != 0 || f != (api.Fault{Code: api.ErrLong}) {
			t.Error(i, len(l), f)
		}
	}
	if l, f := code.Decode(full[:5] + "x"); len(l) != 0 || f != (api.Fault{Code: api.ErrEnd}) {
		t.Error(len(l), f)
	}
}

// Promise 1.2: behind api.MaxItems fields nothing may stand, be it a field or none.
func TestDecodeMostFields(t *testing.T) {
	full := strings.Repeat("N\x01\x01", api.MaxItems)
	if l, f := code.Decode(full); len(l) != api.MaxItems || f != (api.Fault{}) {
		t.Error(len(l), f)
	}
	for _, more := range []string{"N\x00", "N", "X", "T\x01\x00", full[:3000]} {
		want := api.Fault{At: len(full), Code: api.ErrLong}
		if l, f := code.Decode(full + more); len(l) != 0 || f != want {
			t.Errorf("%x: %d %v", more, len(l), f)
		}
	}
	last := len(full) - 3
	want := api.Fault{At: last, Code: api.ErrForm}
	if l, f := code.Decode(full[:last] + "XN\x00"); len(l) != 0 || f != want {
		t.Error(len(l), f)
	}
}

// Promise 1.2: bytes that end early are the list of the fields ahead, or tell where the last one begins.
func TestDecodeCutOff(t *testing.T) {
	l := []api.Field{number(0), text("abc"), number(-1), text(""), text(strings.Repeat("y", 300)), number(77)}
	starts := []int{0}
	b := ""
	for _, f := range l {
		s, _ := code.Encode([]api.Field{f})
		b += s
		starts = append(starts, len(b))
	}
	whole := 0
	for n := range len(b) {
		if n == starts[whole+1] {
			whole++
		}
		got, f := code.Decode(b[:n])
		if n == starts[whole] {
			if !slices.Equal(got, l[:whole]) || f != (api.Fault{}) {
				t.Error(n, got, f)
			}
		} else if len(got) != 0 || f != (api.Fault{At: starts[whole], Code: api.ErrEnd}) {
			t.Error(n, got, f)
		}
	}
}

// R4: answers share no memory.
func TestDecodeAnswersApart(t *testing.T) {
	const b = "N\x01\x01T\x01\x01a"
	one, _ := code.Decode(b)
	if len(one) != 2 {
		t.Fatal(one)
	}
	other, _ := code.Decode(b)
	clear(one[:cap(one)])
	if !slices.Equal(other, []api.Field{number(1), text("a")}) {
		t.Error(other)
	}
}

// drawnNumber draws from all lengths of numbers, on either side of 0.
func drawnNumber(r *rand.Rand) int64 {
	n := int64(r.Uint64() >> r.Intn(64))
	if r.Intn(2) == 0 {
		return -n
	}
	return n
}

func drawnText(r *rand.Rand, most int) string {
	b := make([]byte, r.Intn(most+1))
	r.Read(b)
	return string(b)
}

func drawnList(r *rand.Rand) []api.Field {
	l := make([]api.Field, r.Intn(20))
	for i := range l {
		if r.Intn(2) == 0 {
			l[i] = number(drawnNumber(r))
		} else {
			l[i] = text(drawnText(r, 600))
		}
	}
	return l
}

// Promise 1.4: what is encoded is decoded, and lists one behind the other are one list.
func TestEncodedIsDecoded(t *testing.T) {
	r := rand.New(rand.NewSource(1))
	for range 2000 {
		x, y := drawnList(r), drawnList(r)
		bx, ex := code.Encode(x)
		by, ey := code.Encode(y)
		if ex != api.OK || ey != api.OK {
			t.Fatal(ex, ey)
		}
		both := slices.Concat(x, y)
		if l, f := code.Decode(bx + by); !slices.Equal(l, both) || f != (api.Fault{}) {
			t.Fatal(both, l, f)
		}
		if b, e := code.Encode(both); b != bx+by || e != api.OK {
			t.Fatalf("%x %v", b, e)
		}
	}
}

// oneOrNone fails if b is a list's bytes, but not those that the list is given.
func oneOrNone(t *testing.T, b string) {
	t.Helper()
	l, f := code.Decode(b)
	if f != (api.Fault{}) {
		if len(l) != 0 || f.At < 0 || f.At >= len(b) {
			t.Fatalf("%x: %v %v", b, l, f)
		}
		return
	}
	if again, e := code.Encode(l); again != b || e != api.OK {
		t.Fatalf("%x: %v, %x %v", b, l, again, e)
	}
}

// Promise 1.4 and P1: short bytes, all of them over letters that matter, are one list or none.
func TestShortBytesAreOneListOrNone(t *testing.T) {
	const letters = "NT\x00\x01\x02\x03\x08\x09\xff"
	level := []string{""}
	for range 6 {
		var next []string
		for _, b := range level {
			oneOrNone(t, b)
			for i := range len(letters) {
				next = append(next, b+letters[i:i+1])
			}
		}
		level = next
	}
	for a := range 256 {
		for b := range 256 {
			oneOrNone(t, string([]byte{byte(a), byte(b)}))
			oneOrNone(t, string([]byte{'N', byte(a), byte(b)}))
			oneOrNone(t, string([]byte{'T', byte(a), byte(b)}))
		}
	}
}

// Promise 1.4 and P1: bytes of a list with some changed are one list or none.
func TestChangedBytesAreOneListOrNone(t *testing.T) {
	r := rand.New(rand.NewSource(2))
	for range 20000 {
		s, _ := code.Encode(drawnList(r))
		b := []byte(s)
		for range r.Intn(4) {
			if len(b) > 0 {
				b[r.Intn(len(b))] = byte(r.Intn(256))
			}
		}
		oneOrNone(t, string(b))
	}
}
