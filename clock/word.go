package clock

// The numbers of SplitMix64.
const (
	wordStep    = 11400714819323198485
	firstFactor = 13787848793156543929
	lastFactor  = 10723151780598845931
)

// word is where a clock stands in the words of its seed.
type word uint64

// next goes on to the next word, and answers it. The word kept is the plain sum: what is answered is mixed from it, and mixes into no later one.
func (w *word) next() uint64 {
	*w += wordStep
	z := uint64(*w)
	z = (z ^ z>>30) * firstFactor
	z = (z ^ z>>27) * lastFactor
	return z ^ z>>31
}
