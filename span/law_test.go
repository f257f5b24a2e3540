package span_test

import (
	"math/rand"
	"slices"
	"testing"
	"unsafe"

	"skylark/api"
	"skylark/span"
)

// drawn is a text of few letters, so that texts often are the same, or begin each other.
func drawn(r *rand.Rand, letters string) string {
	b := make([]byte, r.Intn(4))
	for i := range b {
		b[i] = letters[r.Intn(len(letters))]
	}
	return string(b)
}

// drawnSpan is a span that may be.
func drawnSpan(r *rand.Rand, letters string) api.Span {
	for {
		s := to(drawn(r, letters), drawn(r, letters))
		if r.Intn(8) == 0 {
			s.To = ""
		}
		if s.To == "" && r.Intn(4) > 0 {
			continue
		}
		if span.Check(s) == api.OK {
			return s
		}
	}
}

func drawnList(r *rand.Rand, letters string) []api.Span {
	var l []api.Span
	for range r.Intn(7) {
		l = append(l, drawnSpan(r, letters))
	}
	return l
}

// has is what the chapter says of a list and a text.
func has(l []api.Span, text string) bool {
	for _, s := range l {
		if text >= s.From && (s.To == "" || text < s.To) {
			return true
		}
	}
	return false
}

// model is the normal list of what is kept of two lists, found from one end of a span to the next one: between two ends nothing changes.
func model(a, b []api.Span, keeps func(inA, inB bool) bool) []api.Span {
	var ends []string
	for _, s := range slices.Concat(a, b) {
		ends = append(ends, s.From, s.To)
	}
	slices.Sort(ends)
	ends = slices.Compact(append([]string{""}, ends...))
	var out []api.Span
	for i, x := range ends {
		below := ""
		if i+1 < len(ends) {
			below = ends[i+1]
		}
		if !keeps(has(a, x), has(b, x)) {
			continue
		}
		if k := len(out) - 1; k >= 0 && out[k].To == x {
			out[k].To = below
		} else {
			out = append(out, to(x, below))
		}
	}
	return out
}

// Promises 5.1, 5.2: drawn lists are reckoned with as a simple model does.
func TestModel(t *testing.T) {
	r := rand.New(rand.NewSource(5))
	for range 30000 {
		letters := []string{"ab", "a\x00", "\x7f\x80\xff", "abcdefgh"}[r.Intn(4)]
		a, b := drawnList(r, letters), drawnList(r, letters)
		l, e := span.Normal(a)
		is(t, l, e, model(a, nil, func(inA, _ bool) bool { return inA }))
		isNormal(t, l)
		for _, c := range calls() {
			l, e := c.do(a, b)
			is(t, l, e, model(a, b, c.keeps))
			isNormal(t, l)
			for range 4 {
				if x := drawn(r, letters); span.Has(l, x) != c.keeps(span.Has(a, x), span.Has(b, x)) {
					t.Fatalf("%s of %q and %q has %q: %v", c.name, a, b, x, span.Has(l, x))
				}
			}
		}
		if t.Failed() {
			t.Fatalf("%q %q", a, b)
		}
	}
}

// same fails unless two calls answer the same spans.
func same(t *testing.T, one []api.Span, e api.Errno, other []api.Span, f api.Errno) {
	t.Helper()
	if e != api.OK || f != api.OK || !slices.Equal(one, other) {
		t.Fatalf("%q %v, not %q %v", one, e, other, f)
	}
}

// Promise 5.3: lists with the same texts are the same when normal; Union and Meet do not hang on the order; what is taken away, joined with what is left in both, is the first.
func TestLaws(t *testing.T) {
	r := rand.New(rand.NewSource(6))
	for range 10000 {
		a, b := drawnList(r, "ab\xff"), drawnList(r, "ab\xff")
		normal, e := span.Normal(a)
		again, f := span.Normal(normal)
		same(t, normal, e, again, f)
		mixed := slices.Clone(a)
		r.Shuffle(len(mixed), func(i, k int) { mixed[i], mixed[k] = mixed[k], mixed[i] })
		mixed = append(mixed, cutUp(r, normal)...)
		again, f = span.Normal(mixed)
		same(t, normal, e, again, f)
		for _, c := range calls()[:2] {
			one, e := c.do(a, b)
			other, f := c.do(b, mixed)
			same(t, one, e, other, f)
		}
		left, e := span.Minus(a, b)
		both, f := span.Meet(a, b)
		if e != api.OK || f != api.OK {
			t.Fatal(e, f)
		}
		whole, e := span.Union(left, both)
		same(t, whole, e, normal, api.OK)
	}
}

// cutUp are spans with the texts of a list, some of them cut in two.
func cutUp(r *rand.Rand, l []api.Span) []api.Span {
	var out []api.Span
	for _, s := range l {
		if mid := drawn(r, "ab\xff"); mid > s.From && (s.To == "" || mid < s.To) {
			out = append(out, to(mid, s.To), to(s.From, mid))
		} else {
			out = append(out, s)
		}
	}
	return out
}

// R4: what is handed in stays as it is, spare room too.
func TestArgumentsStay(t *testing.T) {
	room := list("e", "f", "c", "d", "b", "e", "a", "b", "z", "y", "x", "x")
	was := slices.Clone(room)
	a, b := room[:2], room[2:4]
	for _, c := range calls() {
		if _, e := c.do(a, b); e != api.OK {
			t.Error(e)
		}
		if _, e := c.do(b, a); e != api.OK {
			t.Error(e)
		}
	}
	if _, e := span.Normal(room[:4]); e != api.OK || !span.Has(room[:3], "c") {
		t.Error(e)
	}
	if !slices.Equal(room, was) {
		t.Errorf("%q, not %q", room, was)
	}
}

// R4: an answer is new memory: no other answer and no argument shares it, in lists or in texts.
func TestAnswersAreNew(t *testing.T) {
	a, b := list("aa", "bb", "cc", "dd", "ee", ""), list("bbb", "cc", "cc", "da", "fa", "ga")
	wasA := slices.Clone(a)
	normal := func(a, _ []api.Span) ([]api.Span, api.Errno) { return span.Normal(a) }
	for _, c := range append(calls(), call{name: "Normal", do: normal}) {
		one, e := c.do(a, b)
		other, f := c.do(a, b)
		same(t, one, e, other, f)
		taken := map[*byte]bool{}
		for _, x := range texts(append(slices.Clone(a), b...)) {
			taken[unsafe.StringData(x)] = true
		}
		for _, x := range texts(append(slices.Clone(one), other...)) {
			if taken[unsafe.StringData(x)] {
				t.Errorf("%s: %q shares memory", c.name, x)
			}
			taken[unsafe.StringData(x)] = true
		}
		was := slices.Clone(other)
		clear(one[:cap(one)])
		if !slices.Equal(other, was) || !slices.Equal(a, wasA) {
			t.Errorf("%s: %q %q", c.name, other, a)
		}
	}
}

// texts are the ends of spans that are not empty.
func texts(l []api.Span) []string {
	var out []string
	for _, s := range l {
		for _, x := range []string{s.From, s.To} {
			if x != "" {
				out = append(out, x)
			}
		}
	}
	return out
}
