package op

import "skylark/api"

// reader takes fields from the front of a list. A field that is not there, or of the other kind, is noted and read as zero, so that only the end has to be asked whether all was right.
type reader struct {
	rest  []api.Field
	wrong bool
}

func (r *reader) request() api.Request {
	x := api.Request{Client: r.number(), Seq: r.number()}
	for range r.count(api.MaxOps) {
		x.Ops = append(x.Ops, r.operation())
	}
	return x
}

func (r *reader) operation() api.Op {
	return api.Op{Kind: r.number(), Key: r.text(), Val: r.text(), Stamp: r.number(), Test: r.number(), Most: r.number()}
}

func (r *reader) reply() api.Reply {
	x := api.Reply{Client: r.number(), Seq: r.number()}
	x.Fault = api.Fault{At: r.number(), Code: api.Errno(r.number())}
	for range r.count(api.MaxOps) {
		x.Results = append(x.Results, r.result())
	}
	return x
}

func (r *reader) result() api.Result {
	x := api.Result{Code: api.Errno(r.number()), Stamp: r.number(), Val: r.text()}
	for range r.count(maxRows) {
		x.Rows = append(x.Rows, r.row())
	}
	return x
}

func (r *reader) row() api.Row {
	return api.Row{Key: r.text(), Stamp: r.number(), Val: r.text()}
}

// count reads how many of something follow. More than may be are none, so that a great number is never counted up to.
func (r *reader) count(most int) int {
	n := r.number()
	if !isWithin(n, 0, most) {
		r.wrong = true
		return 0
	}
	return n
}

func (r *reader) number() int {
	return int(r.next(false).N)
}

func (r *reader) text() string {
	return r.next(true).S
}

func (r *reader) next(isText bool) api.Field {
	if len(r.rest) == 0 || r.rest[0].Text != isText {
		r.wrong = true
		return api.Field{}
	}
	f := r.rest[0]
	r.rest = r.rest[1:]
	return f
}

// isDone tells whether the list was just what was read.
func (r *reader) isDone() bool {
	return !r.wrong && len(r.rest) == 0
}
