// Package fields makes the fields of lists that are written as bytes (package code), and takes them from such lists again.
package fields

import "skylark/api"

// Number answers the field of a number.
func Number(n int) api.Field {
	return api.Field{N: int64(n)}
}

// Text answers the field of a text.
func Text(s string) api.Field {
	return api.Field{Text: true, S: s}
}

// Reader takes fields from the front of a list. A field that is not there, or of the other kind, is noted and read as zero, so that only the end has to be asked whether all was right.
type Reader struct {
	rest  []api.Field
	wrong bool
}

// Read answers a reader of a list.
func Read(list []api.Field) *Reader {
	return &Reader{rest: list}
}

// Number takes a number.
func (r *Reader) Number() int {
	return int(r.next(false).N)
}

// Text takes a text.
func (r *Reader) Text() string {
	return r.next(true).S
}

// Within takes a number from least to most. Any other one is none.
func (r *Reader) Within(least, most int) int {
	n := r.Number()
	if n < least || n > most {
		r.wrong = true
		return 0
	}
	return n
}

// Count takes a number that says how many of something follow. More than may be are none, so that a great number is never counted up to.
func (r *Reader) Count(most int) int {
	return r.Within(0, most)
}

// IsText tells whether the next field is a text.
func (r *Reader) IsText() bool {
	return len(r.rest) > 0 && r.rest[0].Text
}

// GoesOn tells whether fields are left, and nothing was wrong so far: each that is taken as what it is brings the end nearer.
func (r *Reader) GoesOn() bool {
	return !r.wrong && len(r.rest) > 0
}

// IsDone tells whether the list was just what was taken.
func (r *Reader) IsDone() bool {
	return !r.wrong && len(r.rest) == 0
}

func (r *Reader) next(isText bool) api.Field {
	if len(r.rest) == 0 || r.rest[0].Text != isText {
		r.wrong = true
		return api.Field{}
	}
	f := r.rest[0]
	r.rest = r.rest[1:]
	return f
}
