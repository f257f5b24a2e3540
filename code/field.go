package code

import (
	"strings"

	"skylark/api"
)

// The bytes that fields begin with.
const (
	markNumber = 'N'
	markText   = 'T'
)

// A number has at most so many bytes behind the one that counts them.
const maxCount = 8

// kind is how one kind of field is written: the byte it begins with, the number that follows, the bytes behind that.
type kind[V int64 | string] struct {
	mark byte
	head func(V) uint64
	tail func(V) string
}

func numbers() kind[int64] {
	return kind[int64]{
		mark: markNumber,
		head: func(n int64) uint64 { return uint64(n) },
		tail: func(int64) string { return "" },
	}
}

func texts() kind[string] {
	return kind[string]{
		mark: markText,
		head: func(s string) uint64 { return uint64(len(s)) },
		tail: func(s string) string { return s },
	}
}

// size answers how many bytes write adds.
func size[V int64 | string](k kind[V], v V) int {
	return 2 + width(k.head(v)) + len(k.tail(v))
}

// write adds the bytes of a field to b.
func write[V int64 | string](b []byte, k kind[V], v V) []byte {
	head := k.head(v)
	count := width(head)
	b = append(b, k.mark, byte(count))
	b = putLow(b, head, count)
	return append(b, k.tail(v)...)
}

// readField reads the field that begins at a place within b, and answers the place behind it.
func readField(b string, at int) (api.Field, int, api.Errno) {
	mark := b[at]
	if mark != markNumber && mark != markText {
		return api.Field{}, 0, api.ErrForm
	}
	n, end, e := readNumber(b, at+1)
	if e != api.OK {
		return api.Field{}, 0, e
	}
	if mark == markNumber {
		return api.Field{N: n}, end, api.OK
	}
	s, end, e := readText(b, end, n)
	if e != api.OK {
		return api.Field{}, 0, e
	}
	return api.Field{Text: true, S: s}, end, api.OK
}

// readNumber reads a number's bytes. A number has one form only, so a 0 at the highest place is a fault.
func readNumber(b string, at int) (int64, int, api.Errno) {
	if at == len(b) {
		return 0, 0, api.ErrEnd
	}
	count := int(b[at])
	if count > maxCount {
		return 0, 0, api.ErrForm
	}
	at++
	if len(b)-at < count {
		return 0, 0, api.ErrEnd
	}
	end := at + count
	if count > 0 && b[end-1] == 0 {
		return 0, 0, api.ErrForm
	}
	return int64(getLow[uint64](b[at:end])), end, api.OK
}

// readText reads the n bytes of a text. They are copied, so that an answer does not hold on to what it was read from.
func readText(b string, at int, n int64) (string, int, api.Errno) {
	if n < 0 || n > api.MaxBytes {
		return "", 0, api.ErrForm
	}
	if int64(len(b)-at) < n {
		return "", 0, api.ErrEnd
	}
	end := at + int(n)
	return strings.Clone(b[at:end]), end, api.OK
}
