package code

import (
	"strings"

	"skylark/api"
)

// A frame's number of bytes, and its sum, take so many bytes each.
const wordBytes = 4

const (
	sumModulus = 65521
	// So many bytes can be summed up ahead of a remainder without the sum of sums going round 2^32.
	sumStretch = 5552
)

// Sum answers the Adler-32 sum of b.
func Sum(b string) uint32 {
	low, high := uint32(1), uint32(0)
	for len(b) > 0 {
		stretch := b[:min(len(b), sumStretch)]
		for i := range len(stretch) {
			low += uint32(stretch[i])
			high += low
		}
		low %= sumModulus
		high %= sumModulus
		b = b[len(stretch):]
	}
	return high<<16 | low
}

// Frame answers b with its number of bytes ahead and the sum of both behind.
func Frame(b string) (string, api.Errno) {
	if len(b) > api.MaxFrame {
		return "", api.ErrLong
	}
	frame := make([]byte, 0, len(b)+2*wordBytes)
	frame = putLow(frame, uint32(len(b)), wordBytes)
	frame = append(frame, b...)
	frame = putLow(frame, Sum(string(frame)), wordBytes)
	return string(frame), api.OK
}

// Unframe answers what is in the frame that begins at a place, and the place behind that frame. The bytes are copied, so that an answer does not hold on to what it was read from.
func Unframe(b string, at int) (body string, end int, f api.Fault) {
	if at < 0 || at > len(b) {
		return "", 0, api.Fault{At: 0, Code: api.ErrRange}
	}
	rest := b[at:]
	if len(rest) < wordBytes {
		return "", 0, api.Fault{At: at, Code: api.ErrEnd}
	}
	// Held against the limit ahead of becoming an int: four bytes tell more than an int may hold.
	told := getLow[uint32](rest[:wordBytes])
	if told > api.MaxFrame {
		return "", 0, api.Fault{At: at, Code: api.ErrLong}
	}
	bodyEnd := wordBytes + int(told)
	frameEnd := bodyEnd + wordBytes
	if len(rest) < frameEnd {
		return "", 0, api.Fault{At: at, Code: api.ErrEnd}
	}
	if getLow[uint32](rest[bodyEnd:frameEnd]) != Sum(rest[:bodyEnd]) {
		return "", 0, api.Fault{At: at, Code: api.ErrSum}
	}
	return strings.Clone(rest[wordBytes:bodyEnd]), at + frameEnd, api.Fault{}
}

// Frames answers what is in the frames that stand one behind the other from the beginning on, and the place behind the last one without a fault.
func Frames(b string) (bodies []string, end int) {
	for {
		body, next, f := Unframe(b, end)
		if f.Code != api.OK {
			return bodies, end
		}
		bodies = append(bodies, body)
		end = next
	}
}
