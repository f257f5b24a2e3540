package code_test

import (
	"hash/adler32"
	"math"
	"math/rand"
	"slices"
	"strings"
	"testing"

	"skylark/api"
	"skylark/code"
)

// framed is the frame of what may be framed.
func framed(t *testing.T, b string) string {
	t.Helper()
	s, e := code.Frame(b)
	if e != api.OK {
		t.Fatal(len(b), e)
	}
	return s
}

// refused fails unless Unframe tells that fault, and nothing beside it.
func refused(t *testing.T, b string, at int, want api.Fault) {
	t.Helper()
	if body, end, f := code.Unframe(b, at); body != "" || end != 0 || f != want {
		t.Errorf("%d bytes at %d: %d bytes, %d, %v, not %v", len(b), at, len(body), end, f, want)
	}
}

// Promise 1.3: the sum.
func TestSum(t *testing.T) {
	for _, x := range []struct {
		b   string
		sum uint32
	}{
		{"", 1},
		{"\x00", 0x00010001},
		{"a", 0x00620062},
		{"abc", 0x024d0127},
		{"Wikipedia", 300286872},
		{"\xff", 0x01000100},
	} {
		if s := code.Sum(x.b); s != x.sum {
			t.Errorf("%q: %x, not %x", x.b, s, x.sum)
		}
	}
}

// Promise 1.3: bytes of any length have their sum, whatever they are.
func TestSumOfAnyLength(t *testing.T) {
	r := rand.New(rand.NewSource(3))
	drawn := make([]byte, 1<<21)
	r.Read(drawn)
	zeros := make([]byte, 1<<21)
	full := []byte(strings.Repeat("\xff", 1<<21))
	for _, n := range []int{1, 2, 256, 257, 258, 5551, 5552, 5553, 11104, 11105, 65520, 65521, 65522, api.MaxFrame, api.MaxBytes + 1, 1 << 21} {
		for i, b := range [][]byte{drawn, zeros, full} {
			if s := code.Sum(string(b[:n])); s != adler32.Checksum(b[:n]) {
				t.Errorf("%d bytes of %d: %x", n, i, s)
			}
		}
	}
}

// Promise 1.3: the frame.
func TestFrame(t *testing.T) {
	for _, x := range []struct{ b, frame string }{
		{"", "\x00\x00\x00\x00\x01\x00\x04\x00"},
		{"abc", "\x03\x00\x00\x00abc\x2a\x01\x66\x02"},
		{strings.Repeat("\x00", 258), "\x02\x01\x00\x00" + strings.Repeat("\x00", 258) + "\x04\x00\x17\x04"},
	} {
		if s, e := code.Frame(x.b); s != x.frame || e != api.OK {
			t.Errorf("%q: %x %v", x.b, s, e)
		}
	}
}

// Promise 1.3: api.MaxFrame bytes are framed, one more are not.
func TestFrameMostBytes(t *testing.T) {
	most := strings.Repeat("\xff", api.MaxFrame)
	s := framed(t, most)
	if len(s) != api.MaxFrame+8 || s[:4] != "\x00\x00\x01\x00" || s[4:len(s)-4] != most {
		t.Error(len(s))
	}
	if body, end, f := code.Unframe(s, 0); body != most || end != len(s) || f != (api.Fault{}) {
		t.Error(len(body), end, f)
	}
	if s, e := code.Frame(most + "x"); s != "" || e != api.ErrLong {
		t.Error(len(s), e)
	}
}

// Promise 1.3: each place at which Unframe may be asked, and those outside.
func TestUnframePlaces(t *testing.T) {
	s := framed(t, "abc")
	two := s + framed(t, "")
	for _, at := range []int{math.MinInt, -len(two), -1, len(two) + 1, len(two) + 4, math.MaxInt} {
		refused(t, two, at, api.Fault{Code: api.ErrRange})
	}
	for at := range len(two) + 1 {
		switch at {
		case 0:
			if body, end, f := code.Unframe(two, at); body != "abc" || end != len(s) || f != (api.Fault{}) {
				t.Error(body, end, f)
			}
		case len(s):
			if body, end, f := code.Unframe(two, at); body != "" || end != len(two) || f != (api.Fault{}) {
				t.Error(body, end, f)
			}
		default:
			if body, end, f := code.Unframe(two, at); body != "" || end != 0 || f.At != at || f.Code == api.OK {
				t.Error(at, body, end, f)
			}
		}
	}
	for at := len(two) - 3; at <= len(two); at++ {
		refused(t, two, at, api.Fault{At: at, Code: api.ErrEnd})
	}
	refused(t, "", 0, api.Fault{Code: api.ErrEnd})
	refused(t, "", 1, api.Fault{Code: api.ErrRange})
	refused(t, "", -1, api.Fault{Code: api.ErrRange})
}

// Promise 1.3: each fault of a frame, at the beginning and behind other bytes, the one that is named first first.
func TestUnframeFaults(t *testing.T) {
	most := strings.Repeat("x", api.MaxFrame)
	for i, x := range []struct {
		b string
		e api.Errno
	}{
		{"", api.ErrEnd},
		{"\xff\xff\xff", api.ErrEnd},
		{"\x01\x00\x01\x00", api.ErrLong},
		{"\x01\x00\x01\x00" + most + "xxxxx", api.ErrLong},
		{"\x00\x00\x00\x80", api.ErrLong},
		{"\xff\xff\xff\x7f", api.ErrLong},
		{"\xff\xff\xff\xff", api.ErrLong},
		{"\x00\x00\x01\x00", api.ErrEnd},
		{"\x00\x00\x01\x00" + most + "xxx", api.ErrEnd},
		{"\x00\x00\x01\x00" + most + "xxxx", api.ErrSum},
		{"\x00\x00\x00\x00", api.ErrEnd},
		{"\x00\x00\x00\x00\x01\x00\x04", api.ErrEnd},
		{"\x00\x00\x00\x00\x00\x04\x00\x01", api.ErrSum},
		{"\x00\x00\x00\x00\x00\x00\x00\x00", api.ErrSum},
	} {
		for _, front := range []string{"", "z", framed(t, "front")} {
			t.Log(i, len(front))
			refused(t, front+x.b, len(front), api.Fault{At: len(front), Code: x.e})
		}
	}
}

// Promise 1.4: a frame is found wherever it stands.
func TestFrameIsFound(t *testing.T) {
	r := rand.New(rand.NewSource(4))
	for range 3000 {
		front, body, back := drawnText(r, 30), drawnText(r, 400), drawnText(r, 30)
		s := framed(t, body)
		got, end, f := code.Unframe(front+s+back, len(front))
		if got != body || end != len(front)+len(s) || f != (api.Fault{}) {
			t.Fatalf("%x %x %x: %x %d %v", front, body, back, got, end, f)
		}
	}
}

// Promise 1.4: a frame that ends early is none.
func TestFrameThatEndsEarly(t *testing.T) {
	for _, body := range []string{"", "a", "abc", strings.Repeat("y", 300), strings.Repeat("\x00", 20)} {
		s := framed(t, body)
		for n := range len(s) {
			refused(t, s[:n], 0, api.Fault{Code: api.ErrEnd})
			refused(t, "zz"+s[:n], 2, api.Fault{At: 2, Code: api.ErrEnd})
			if l, end := code.Frames(s[:n]); len(l) != 0 || end != 0 {
				t.Error(n, l, end)
			}
		}
	}
}

// Promise 1.4: a frame in which one byte behind the number is another one is none.
func TestFrameWithOneByteChanged(t *testing.T) {
	for _, body := range []string{"", "a", "abc", "\x00\x00\xff\xff", strings.Repeat("\xff", 300)} {
		s := []byte(framed(t, body))
		for i := 4; i < len(s); i++ {
			was := s[i]
			for c := range 256 {
				if byte(c) != was {
					s[i] = byte(c)
					refused(t, string(s), 0, api.Fault{Code: api.ErrSum})
				}
			}
			s[i] = was
		}
	}
}

// Promise 1.3: the number of bytes is summed as well.
func TestSumTakesInTheNumber(t *testing.T) {
	sum := code.Sum("abc")
	b := "\x03\x00\x00\x00abc" + string([]byte{byte(sum), byte(sum >> 8), byte(sum >> 16), byte(sum >> 24)})
	refused(t, b, 0, api.Fault{Code: api.ErrSum})
}

// Promise 1.3: Frames goes on to the first fault, and tells where it is.
func TestFrames(t *testing.T) {
	a, none, b := framed(t, "a"), framed(t, ""), framed(t, strings.Repeat("b", 300))
	bad := []byte(b)
	bad[100]++
	for i, x := range []struct {
		b      string
		bodies []string
		end    int
	}{
		{"", nil, 0},
		{"x", nil, 0},
		{"\xff\xff\xff\xff", nil, 0},
		{"z" + a, nil, 0},
		{a, []string{"a"}, len(a)},
		{none + none, []string{"", ""}, 2 * len(none)},
		{a + none + b, []string{"a", "", strings.Repeat("b", 300)}, len(a + none + b)},
		{a + none + "x", []string{"a", ""}, len(a + none)},
		{a + b[:len(b)-1], []string{"a"}, len(a)},
		{a + string(bad) + a, []string{"a"}, len(a)},
		{a + "\x01\x00\x01\x00" + a, []string{"a"}, len(a)},
		{a + "z" + a, []string{"a"}, len(a)},
		{string(bad) + a, nil, 0},
	} {
		if l, end := code.Frames(x.b); !slices.Equal(l, x.bodies) || end != x.end {
			t.Error(i, l, end)
		}
	}
}

// Promise 1.3: Frames has no limit of its own, neither of bytes nor of frames.
func TestFramesOfManyBytes(t *testing.T) {
	most := framed(t, strings.Repeat("m", api.MaxFrame))
	l, end := code.Frames(strings.Repeat(most, 20))
	if len(l) != 20 || end != 20*len(most) {
		t.Error(len(l), end)
	}
	one := framed(t, "1")
	l, end = code.Frames(strings.Repeat(one, 3*api.MaxItems) + one[:5])
	if len(l) != 3*api.MaxItems || end != 3*api.MaxItems*len(one) {
		t.Error(len(l), end)
	}
}

// R4: answers share no memory.
func TestFramesAnswersApart(t *testing.T) {
	b := framed(t, "a") + framed(t, "b")
	one, _ := code.Frames(b)
	other, _ := code.Frames(b)
	clear(one[:cap(one)])
	if !slices.Equal(other, []string{"a", "b"}) {
		t.Error(other)
	}
}

// P1 and promise 1.3: at any bytes and places the calls end, and tell what they must.
func TestUnframeOfAnything(t *testing.T) {
	r := rand.New(rand.NewSource(5))
	for range 20000 {
		b := []byte(drawnText(r, 20))
		if len(b) >= 4 && r.Intn(2) == 0 {
			copy(b, []byte{byte(r.Intn(20)), 0, 0, 0})
		}
		at := r.Intn(len(b)+5) - 2
		body, end, f := code.Unframe(string(b), at)
		if f != (api.Fault{}) && (body != "" || end != 0) {
			t.Fatalf("%x at %d: %x %d %v", b, at, body, end, f)
		}
		if f == (api.Fault{}) && framed(t, body) != string(b[at:end]) {
			t.Fatalf("%x at %d: %x %d", b, at, body, end)
		}
		if l, end := code.Frames(string(b)); end < 0 || end > len(b) || (len(l) == 0) != (end == 0) {
			t.Fatalf("%x: %x %d", b, l, end)
		}
	}
}
