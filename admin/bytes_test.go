package admin_test

import (
	"math"
	"math/rand"
	"slices"
	"strings"
	"testing"
	"unsafe"

	"skylark/admin"
	"skylark/api"
)

// number and text are fields' bytes, written apart from package code.
func number(n int) string {
	var b []byte
	for u := uint64(n); u > 0; u /= 256 {
		b = append(b, byte(u%256))
	}
	return "N" + string(rune(len(b))) + string(b)
}

func text(s string) string {
	return "T" + number(len(s))[1:] + s
}

// bytesOf is what the chapter says of a command's bytes.
func bytesOf(c api.Cmd) string {
	var b strings.Builder
	for _, n := range []int{c.Kind, c.Chain, c.Brick, c.Epoch} {
		b.WriteString(number(n))
	}
	b.WriteString(text(c.Cursor))
	for _, n := range c.List {
		b.WriteString(number(n))
	}
	return b.String()
}

func sameCmd(a, b api.Cmd) bool {
	return a.Kind == b.Kind && a.Chain == b.Chain && a.Brick == b.Brick && a.Epoch == b.Epoch && a.Cursor == b.Cursor && slices.Equal(a.List, b.List)
}

// isWritten fails unless a command has just those bytes, and they it.
func isWritten(t *testing.T, c api.Cmd, want string) {
	t.Helper()
	if b, e := admin.Encode(c); b != want || e != api.OK {
		t.Errorf("%s: %q %v", brief(c), b, e)
	}
	if x, e := admin.Decode(want); !sameCmd(x, c) || e != api.OK {
		t.Errorf("%s: %s %v", brief(c), brief(x), e)
	}
}

// isNone fails unless bytes are no command's.
func isNone(t *testing.T, b string) {
	t.Helper()
	if x, e := admin.Decode(b); !sameCmd(x, api.Cmd{}) || e != api.ErrBad {
		t.Errorf("%.80q: %s %v", b, brief(x), e)
	}
}

// Promise 18.3: the bytes of some commands, byte by byte.
func TestBytes(t *testing.T) {
	isWritten(t, api.Cmd{}, "N\x00N\x00N\x00N\x00T\x00")
	isWritten(t, made(0, 1, 15), "N\x01\x01N\x00N\x00N\x00T\x00N\x00N\x01\x01N\x01\x0f")
	isWritten(t, join(1, 3), "N\x01\x02N\x01\x01N\x01\x03N\x00T\x00")
	isWritten(t, repaired(2, 256), "N\x01\x06N\x00N\x01\x02N\x02\x00\x01T\x00")
	isWritten(t, moved("m\x00"), "N\x01\x08N\x00N\x00N\x00T\x01\x02m\x00")
	isWritten(t, done(), "N\x01\x09N\x00N\x00N\x00T\x00")
	isWritten(t, api.Cmd{Kind: -1, Chain: 5, Brick: 6, Epoch: 7, List: bricks(8), Cursor: "N"}, "N\x08\xff\xff\xff\xff\xff\xff\xff\xffN\x01\x05N\x01\x06N\x01\x07T\x01\x01NN\x01\x08")
}

// Promise 18.3: any command is written, be it one that may come or not, up to 16 members and api.MaxKey bytes.
func TestAnyBytes(t *testing.T) {
	draw := rand.New(rand.NewSource(183))
	numbers := []int{0, 1, -1, 255, 256, 1 << 30, 1 << 40, math.MinInt, math.MaxInt, 9, 10}
	drawn := func() int { return numbers[draw.Intn(len(numbers))] }
	for range 3000 {
		c := api.Cmd{Kind: drawn(), Chain: drawn(), Brick: drawn(), Epoch: drawn(), Cursor: long([]int{0, 1, 63, 64}[draw.Intn(4)])}
		for range draw.Intn(17) {
			c.List = append(c.List, drawn())
		}
		isWritten(t, c, bytesOf(c))
	}
	most := api.Cmd{List: slices.Repeat(bricks(math.MinInt), 16), Cursor: long(api.MaxKey)}
	isWritten(t, most, bytesOf(most))
}

// Promise 18.3: ErrLong of more, and what they would be written as is none.
func TestTooLong(t *testing.T) {
	for _, c := range []api.Cmd{
		{List: make([]int, 17)}, {List: make([]int, 5000)}, {Kind: api.CMake, List: make([]int, 17)}, {Cursor: long(api.MaxKey + 1)}, {Cursor: long(5000)},
		{Kind: api.CMoved, Cursor: long(api.MaxKey + 1)}, {List: make([]int, 16), Cursor: long(65)}, {List: make([]int, 17), Cursor: long(64)}, {List: make([]int, 17), Cursor: long(65)},
	} {
		if b, e := admin.Encode(c); b != "" || e != api.ErrLong {
			t.Errorf("%s: %q %v", brief(c), b, e)
		}
		isNone(t, bytesOf(c))
	}
	if _, e := admin.Encode(api.Cmd{Cursor: long(api.MaxBytes + 1)}); e != api.ErrLong {
		t.Error(e)
	}
}

// Promise 18.3: what is no command's bytes: other lists, bytes that are no list, more of them than may be.
func TestNoCommand(t *testing.T) {
	four := number(1) + number(0) + number(0) + number(0)
	for _, b := range []string{
		"", "z", "N", number(1), four, four + number(0), four + number(0) + text(""), text("") + four, four + text("") + text(""), four + text("") + number(0) + text(""), four + text("") + text("") + number(0),
		four + text("") + number(1) + text("a") + number(1), number(1) + number(0) + number(0) + text(""), number(1) + number(0) + number(0) + text("") + number(0), number(1) + number(0) + number(0) + text("1") + text(""),
		text("1") + number(0) + number(0) + number(0) + text(""), number(1) + text("") + number(0) + number(0) + text(""), number(1) + number(0) + text("") + number(0) + text(""),
		four + "T\x01\x00", four + text("") + "N\x01\x00", "N\x01\x00" + four[3:] + text(""), four + text("") + "N\x09\x01\x01\x01\x01\x01\x01\x01\x01\x01",
		four + text("") + strings.Repeat(number(0), 17), four + text("") + strings.Repeat(number(0), 4091), four + text("") + strings.Repeat(number(0), 4092),
		long(api.MaxBytes), long(api.MaxBytes + 1), four + text(long(api.MaxBytes)), four + text("") + strings.Repeat(number(0), api.MaxBytes),
	} {
		isNone(t, b)
	}
	whole := bytesOf(api.Cmd{Kind: 6, Chain: 300, Brick: 2, Epoch: 7, Cursor: "abc", List: bricks(1000, 2)})
	for end := range len(whole) - len(number(1000)+number(2)) {
		isNone(t, whole[:end])
	}
	for _, more := range []string{"z", "N", "T", text(""), text("a"), "\x00"} {
		isNone(t, whole+more)
	}
}

// Promise 18.3: bytes are one command's or none's: what is taken is written just so.
func TestOneForm(t *testing.T) {
	draw := rand.New(rand.NewSource(1833))
	taken := 0
	for range 30000 {
		b := []byte(bytesOf(api.Cmd{Kind: draw.Intn(12), Chain: draw.Intn(300), Brick: draw.Intn(3), Epoch: draw.Intn(70000), Cursor: long(draw.Intn(4)), List: make([]int, draw.Intn(4))}))
		for range 1 + draw.Intn(2) {
			b[draw.Intn(len(b))] = []byte{0, 1, 2, 'N', 'T', byte(draw.Intn(256))}[draw.Intn(6)]
		}
		c, e := admin.Decode(string(b))
		if e != api.OK {
			isNone(t, string(b))
			continue
		}
		taken++
		if x, e := admin.Encode(c); x != string(b) || e != api.OK {
			t.Fatalf("%q: %q %v", b, x, e)
		}
	}
	if taken == 0 {
		t.Error("none is taken")
	}
}

// Rule R4: what Decode answers shares nothing with its bytes, nor with another answer; what Encode is given is left, and read up to its length.
func TestBytesMemory(t *testing.T) {
	b := bytesOf(api.Cmd{Kind: 1, Cursor: "cursor", List: bricks(1, 2, 3)})
	c, _ := admin.Decode(b)
	from := uintptr(unsafe.Pointer(unsafe.StringData(b)))
	if at := uintptr(unsafe.Pointer(unsafe.StringData(c.Cursor))); at >= from && at < from+uintptr(len(b)) {
		t.Error("the cursor is shared")
	}
	again, _ := admin.Decode(b)
	fill(c.List, -9)
	if !slices.Equal(again.List, bricks(1, 2, 3)) {
		t.Error(again)
	}
	room := roomy(4, 5)
	if b, e := admin.Encode(api.Cmd{List: room}); b != bytesOf(api.Cmd{List: bricks(4, 5)}) || e != api.OK {
		t.Error(b, e)
	}
	if !slices.Equal(room[:cap(room)], roomy(4, 5)[:cap(room)]) {
		t.Error(room[:cap(room)])
	}
	many := make([]int, 40)[:16]
	if _, e := admin.Encode(api.Cmd{List: many}); e != api.OK {
		t.Error(e)
	}
}
