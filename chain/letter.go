package chain

import (
	"skylark/api"
	"skylark/code"
	"skylark/fields"
	"skylark/op"
)

// What letters' lists begin with.
const (
	markDown = 1
	markSure = 2
)

// maxRequest is how many bytes a request may have that goes along a chain.
const maxRequest = 60000

// letter is what one member tells another: the epoch in which it does, its list, and what it does to the member that hears it.
type letter interface {
	ofEpoch() int
	fields() []api.Field
	heardBy(m *Member, from int) api.Errno
}

// header is what letters of both kinds have: the epoch of the member that sent them, and a number.
type header struct {
	epoch, number int
}

func (h header) ofEpoch() int {
	return h.epoch
}

// down is a request of that number on its way to the tail: the request, and its bytes.
type down struct {
	header
	request api.Request
	bytes   string
}

func (d down) fields() []api.Field {
	return []api.Field{fields.Number(markDown), fields.Number(d.epoch), fields.Number(d.number), fields.Text(d.bytes)}
}

// sure tells the one ahead up to which number the one behind is sure.
type sure struct {
	header
}

func (s sure) fields() []api.Field {
	return []api.Field{fields.Number(markSure), fields.Number(s.epoch), fields.Number(s.number)}
}

// letterIn answers the letter whose bytes they are, if there is one.
func letterIn(bytes string) (letter, bool) {
	l, f := code.Decode(bytes)
	if f.Code != api.OK {
		return nil, false
	}
	r := reader{fields.Read(l)}
	x, ok := r.letter(r.Number(), r.header())
	if !ok || !r.IsDone() {
		return nil, false
	}
	return x, true
}

// reader takes letters from a list, part by part.
type reader struct {
	*fields.Reader
}

// header takes an epoch that a member may have, and a number.
func (r reader) header() header {
	return header{epoch: r.Within(0, api.MaxEpoch), number: r.Within(0, api.MaxIndex)}
}

// letter takes what stands behind a letter's mark and header.
func (r reader) letter(mark int, h header) (letter, bool) {
	switch mark {
	case markDown:
		return r.down(h)
	case markSure:
		return sure{h}, true
	}
	return nil, false
}

func (r reader) down(h header) (letter, bool) {
	bytes := r.Text()
	if len(bytes) > maxRequest {
		return nil, false
	}
	request, e := op.Decode(bytes)
	return down{h, request, bytes}, e == api.OK
}
