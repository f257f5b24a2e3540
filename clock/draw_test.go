package clock_test

import (
	"math"
	"math/big"
	"slices"
	"testing"

	"skylark/api"
)

// words are the first so many words of a seed, by the chapter's words with whole numbers of any size, so that nothing hangs on how a word wraps round.
func words(seed uint64, many int) []uint64 {
	mod := new(big.Int).Lsh(big.NewInt(1), 64)
	whole := func(s string) *big.Int { x, _ := new(big.Int).SetString(s, 10); return x }
	mixed := func(z *big.Int, shift uint) *big.Int { return new(big.Int).Xor(z, new(big.Int).Rsh(z, shift)) }
	times := func(z *big.Int, s string) *big.Int {
		z = new(big.Int).Mul(z, whole(s))
		return z.Mod(z, mod)
	}
	var all []uint64
	word := new(big.Int).SetUint64(seed)
	for range many {
		word = new(big.Int).Add(word, whole("11400714819323198485"))
		word.Mod(word, mod)
		z := times(mixed(word, 30), "13787848793156543929")
		z = times(mixed(z, 27), "10723151780598845931")
		all = append(all, mixed(z, 31).Uint64())
	}
	return all
}

// The chapter's example.
func TestExample(t *testing.T) {
	if got := words(0, 2); !slices.Equal(got, []uint64{16294208416658607535, 7960286522194355700}) {
		t.Error(got)
	}
	draws(t, newClock(t, 1, 0), 1000, 535, 700)
}

// Promise 4.2: what is drawn is the next word modulo n, for any seed and any n that may be.
func TestDraw(t *testing.T) {
	limits := []int{1, 2, 3, 10, 255, 256, 1000, 1 << 16, 1<<31 - 1, 1 << 31}
	for _, seed := range []uint64{0, 1, 2, 12345, 1 << 63, math.MaxUint64, math.MaxUint64 - 11400714819323198485 + 1} {
		all := words(seed, 20*len(limits))
		for _, nodes := range []int{1, 5, api.MaxNodes} {
			c := newClock(t, nodes, seed)
			for i, w := range all {
				n := limits[i%len(limits)]
				draws(t, c, n, int(w%uint64(n)))
			}
		}
	}
}

// Promise 4.2: a number that may not be is refused, and no word goes by.
func TestDrawRange(t *testing.T) {
	c, other := newClock(t, 2, 99), newClock(t, 2, 99)
	for _, n := range []int{0, -1, 1<<31 + 1, 1 << 32, -1 << 31, 1 << 40, math.MinInt, math.MaxInt} {
		got, e := c.Draw(n)
		number(t, got, e, 0, api.ErrRange)
		draws(t, other, 1<<31, drawn(t, c, 1)...)
	}
	shows(t, c, 0, 0)
}

// Promise 4.2: a draw below 1 is 0 always, and a word goes by as in every other draw.
func TestDrawOne(t *testing.T) {
	c := newClock(t, 1, 0)
	draws(t, c, 1, 0)
	draws(t, c, 1000, 700)
}

// Promise 4.3: clocks of one seed draw the same, however many their nodes are and whatever the times do; and of unlike seeds they do not.
func TestSeed(t *testing.T) {
	first, second, third := newClock(t, 1, 42), newClock(t, api.MaxNodes, 42), newClock(t, 1, 43)
	var unlike int
	for i := range 50 {
		second.Step(i%api.MaxNodes, i)
		second.All(i - 5)
		second.Now(i)
		second.Apart()
		x := drawn(t, first, 1)
		draws(t, second, 1<<31, x...)
		if drawn(t, third, 1)[0] != x[0] {
			unlike++
		}
	}
	if unlike == 0 {
		t.Error("the seeds 42 and 43 draw the same")
	}
}

// Promise 4.2: drawing lets no time go on.
func TestDrawTimes(t *testing.T) {
	c := newClock(t, 3, 1)
	steps(t, c, 2, 4, 4, api.OK)
	drawn(t, c, 10)
	shows(t, c, 0, 0, 4)
}
