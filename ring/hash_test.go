package ring_test

import (
	"math/rand"
	"strings"
	"testing"

	"skylark/ring"
)

// Promise 6.1: the hash of some texts, worked out elsewhere.
func TestHash(t *testing.T) {
	for _, x := range []struct {
		s    string
		want uint64
	}{
		{"", 17058014651485797458}, {"a", 17114084158190756429}, {"foobar", 7572466921087745109},
		{"0.0", 12088587431885770957}, {"7.127", 3931452762155945424}, {"\x00", 10417342739281038054},
		{"\xff\xfe", 2262499661361406445}, {"Wikipedia", 8465548555894163785},
		{strings.Repeat("k", 64), 5805753568808260722}, {strings.Repeat("k", 1000), 8362323496826159283},
	} {
		if got := ring.Hash(x.s); got != x.want {
			t.Errorf("%q: %d, not %d", x.s, got, x.want)
		}
	}
}

// Promise 6.1: any text has a hash: each byte alone and behind another one, texts that are no runes, long ones.
func TestHashOfAnyText(t *testing.T) {
	texts := odd()
	for b := range 256 {
		texts = append(texts, string([]byte{byte(b)}), string([]byte{'k', byte(b)}), string([]byte{byte(b), 'k'}))
	}
	r := rand.New(rand.NewSource(6))
	for range 2000 {
		b := make([]byte, r.Intn(200))
		r.Read(b)
		texts = append(texts, string(b))
	}
	for _, s := range texts {
		if got, want := ring.Hash(s), modelHash(s); got != want {
			t.Errorf("%q: %d, not %d", s, got, want)
		}
	}
}
