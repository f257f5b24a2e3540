// Package code is layer 1: see shared/doc/01-code.md.
package code

import "skylark/api"

// Encode answers the bytes of a list of fields.
func Encode(l []api.Field) (string, api.Errno) {
	if len(l) > api.MaxItems {
		return "", api.ErrLong
	}
	for _, f := range l {
		if !mayBe(f) {
			return "", api.ErrShape
		}
	}
	long, ok := longOf(l)
	if !ok {
		return "", api.ErrLong
	}
	b := make([]byte, 0, long)
	for _, f := range l {
		if f.Text {
			b = write(b, texts(), f.S)
		} else {
			b = write(b, numbers(), f.N)
		}
	}
	return string(b), api.OK
}

// Decode answers the list of fields whose bytes b is, or the first fault and where its field begins.
func Decode(b string) ([]api.Field, api.Fault) {
	if len(b) > api.MaxBytes {
		return nil, api.Fault{At: 0, Code: api.ErrLong}
	}
	var l []api.Field
	for at := 0; at < len(b); {
		if len(l) == api.MaxItems {
			return nil, api.Fault{At: at, Code: api.ErrLong}
		}
		f, end, e := readField(b, at)
		if e != api.OK {
			return nil, api.Fault{At: at, Code: e}
		}
		l = append(l, f)
		at = end
	}
	return l, api.Fault{}
}

// mayBe tells whether a field holds nothing that its bytes would not tell.
func mayBe(f api.Field) bool {
	if f.Text {
		return f.N == 0
	}
	return f.S == ""
}

// longOf answers how many bytes a list has. It gives up behind api.MaxBytes, so that long texts, shared by many fields, are never laid out.
func longOf(l []api.Field) (int, bool) {
	long := 0
	for _, f := range l {
		if f.Text {
			long += size(texts(), f.S)
		} else {
			long += size(numbers(), f.N)
		}
		if long > api.MaxBytes {
			return 0, false
		}
	}
	return long, true
}
