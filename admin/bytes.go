package admin

import (
	"skylark/api"
	"skylark/code"
	"skylark/fields"
)

// mostMembers is how many members a list has at most in a command that is written as bytes.
const mostMembers = 16

// Encode answers the bytes of a command, be it one that may come or not.
func Encode(c api.Cmd) (string, api.Errno) {
	if isTooLong(c) {
		return "", api.ErrLong
	}
	l := []api.Field{fields.Number(c.Kind), fields.Number(c.Chain), fields.Number(c.Brick), fields.Number(c.Epoch), fields.Text(c.Cursor)}
	for _, n := range c.List {
		l = append(l, fields.Number(n))
	}
	return code.Encode(l)
}

// Decode answers the command whose bytes they are.
func Decode(b string) (api.Cmd, api.Errno) {
	l, f := code.Decode(b)
	if f.Code != api.OK {
		return api.Cmd{}, api.ErrBad
	}
	r := fields.Read(l)
	c := api.Cmd{Kind: r.Number(), Chain: r.Number(), Brick: r.Number(), Epoch: r.Number(), Cursor: r.Text()}
	for r.GoesOn() {
		c.List = append(c.List, r.Number())
	}
	if !r.IsDone() || isTooLong(c) {
		return api.Cmd{}, api.ErrBad
	}
	return c, api.OK
}

// isTooLong tells whether a command has more than its bytes may tell.
func isTooLong(c api.Cmd) bool {
	return len(c.List) > mostMembers || len(c.Cursor) > api.MaxKey
}
