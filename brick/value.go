package brick

import (
	"skylark/api"
	"skylark/fields"
)

// bigFrom is how many bytes a value has that stands in a file of values, and not in the state.
const bigFrom = 64

func isBig(val string) bool {
	return len(val) >= bigFrom
}

// value is how a row's value stands in a state: as itself, or as a place.
type value interface {
	fields() []api.Field
}

// plain is a value that stands in the state itself.
type plain string

func (x plain) fields() []api.Field {
	return []api.Field{fields.Text(string(x))}
}

// placed is a value that stands elsewhere.
type placed api.Place

func (x placed) fields() []api.Field {
	return []api.Field{fields.Number(x.File), fields.Number(x.At), fields.Number(x.Long)}
}

// valueFrom takes a value from a list. Its first field tells which kind it is of.
func valueFrom(list *fields.Reader) value {
	if list.IsText() {
		return plain(list.Text())
	}
	return placed{File: list.Number(), At: list.Number(), Long: list.Number()}
}
