package ring_test

import (
	"cmp"
	"hash/fnv"
	"math/big"
	"math/rand"
	"slices"
	"strconv"
	"testing"

	"skylark/api"
	"skylark/ring"
)

// point is one of a ring, by the chapter's words.
type point struct {
	at       uint64
	chain, i int
}

// modelHash is the hash, FNV-1a by the library, the mixing with whole numbers of any size, so that nothing hangs on how a word wraps round.
func modelHash(s string) uint64 {
	f := fnv.New64a()
	f.Write([]byte(s))
	folded := func(x *big.Int) *big.Int { return new(big.Int).Xor(x, new(big.Int).Rsh(x, 33)) }
	factor, _ := new(big.Int).SetString("18397679294719823053", 10)
	x := folded(new(big.Int).SetUint64(f.Sum64()))
	x.Mul(x, factor).Mod(x, new(big.Int).Lsh(big.NewInt(1), 64))
	return folded(x).Uint64()
}

// modelPoints are the points of weights that may be, in order.
func modelPoints(weights []int) []point {
	var all []point
	for c, weight := range weights {
		for i := range weight {
			all = append(all, point{modelHash(strconv.Itoa(c) + "." + strconv.Itoa(i)), c, i})
		}
	}
	slices.SortFunc(all, func(x, y point) int {
		return cmp.Or(cmp.Compare(x.at, y.at), cmp.Compare(x.chain, y.chain), cmp.Compare(x.i, y.i))
	})
	return all
}

// modelOf is the chain of a key.
func modelOf(all []point, key string) int {
	hash := modelHash(key)
	for _, p := range all {
		if p.at >= hash {
			return p.chain
		}
	}
	return all[0].chain
}

// of answers the chain of a key by weights that may be.
func of(t *testing.T, weights []int, key string) int {
	t.Helper()
	c, e := ring.Of(weights, key)
	if e != api.OK {
		t.Fatalf("%v %q: %v", weights, key, e)
	}
	return c
}

// moved answers the numbers of the keys that move between weights that may be.
func moved(t *testing.T, was, will []int, keys []string) []int {
	t.Helper()
	l, e := ring.Moved(was, will, keys)
	if e != api.OK {
		t.Fatalf("%v %v: %v", was, will, e)
	}
	return l
}

// numbered are keys that begin so and end in their numbers.
func numbered(begin string, many int) []string {
	var keys []string
	for i := range many {
		keys = append(keys, begin+strconv.Itoa(i))
	}
	return keys
}

// odd are texts that are no keys of every day.
func odd() []string {
	long := make([]byte, 5000)
	for i := range long {
		long[i] = byte(i * 7)
	}
	return []string{"", "\x00", "\x00\x00", "\xff", "\xff\xfe", "é", "🜨", " ", "0", "0.", ".0", "0.00", "+0.0", string(long[:api.MaxKey]), string(long[:api.MaxKey+1]), string(long)}
}

// good are weights that may be.
func good() [][]int {
	return [][]int{
		{1}, {2}, {127}, {128}, {1, 0}, {0, 1}, {0, 128}, {1, 1}, {128, 128}, {2, 0, 3}, {10, 11, 12},
		{0, 0, 0, 0, 0, 0, 0, 1}, {1, 0, 0, 0, 0, 0, 0, 0}, {1, 2, 3, 4, 5, 6, 7, 8}, {0, 0, 0, 128, 0, 0, 0, 0},
		{1, 1, 1, 1, 1, 1, 1, 1}, {128, 128, 128, 128, 128, 128, 128, 128},
	}
}

// bad are weights that may not be.
func bad() [][]int {
	const most, least = int(^uint(0) >> 1), -int(^uint(0)>>1) - 1
	return [][]int{
		nil, {}, {0}, {0, 0}, make([]int, 8), make([]int, 9), {1, 1, 1, 1, 1, 1, 1, 1, 1}, {1, 0, 0, 0, 0, 0, 0, 0, 0},
		{-1}, {129}, {-1, 1}, {1, -1}, {129, 1}, {1, 129}, {1, 2, 3, 4, 5, 6, 7, 129}, {1, 2, 3, 4, 5, 6, 7, -1},
		{-1, 2}, {-128, 128}, {0, -1}, {200, -100}, {256}, {1 << 32, 1}, {1<<32 + 1}, {-1 << 32, 1},
		{most}, {least}, {most, most}, {most, 1, least}, {1, most, most, 2}, make([]int, 1000),
	}
}

// drawn are weights that may be, many of them 0 or at the edge.
func drawn(r *rand.Rand) []int {
	for {
		weights := make([]int, 1+r.Intn(api.MaxChains))
		for i := range weights {
			weights[i] = []int{0, 1, r.Intn(5), r.Intn(129), 128}[r.Intn(5)]
		}
		if slices.Max(weights) > 0 {
			return weights
		}
	}
}
