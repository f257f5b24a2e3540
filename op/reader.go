package op

import (
	"skylark/api"
	"skylark/fields"
)

// reader takes requests and replies from a list, part by part.
type reader struct {
	*fields.Reader
}

func readerOf(list []api.Field) reader {
	return reader{fields.Read(list)}
}

func (r reader) request() api.Request {
	x := api.Request{Client: r.Number(), Seq: r.Number()}
	for range r.Count(api.MaxOps) {
		x.Ops = append(x.Ops, r.operation())
	}
	return x
}

func (r reader) operation() api.Op {
	return api.Op{Kind: r.Number(), Key: r.Text(), Val: r.Text(), Stamp: r.Number(), Test: r.Number(), Most: r.Number()}
}

func (r reader) reply() api.Reply {
	x := api.Reply{Client: r.Number(), Seq: r.Number()}
	x.Fault = api.Fault{At: r.Number(), Code: api.Errno(r.Number())}
	for range r.Count(api.MaxOps) {
		x.Results = append(x.Results, r.result())
	}
	return x
}

func (r reader) result() api.Result {
	x := api.Result{Code: api.Errno(r.Number()), Stamp: r.Number(), Val: r.Text()}
	for range r.Count(maxRows) {
		x.Rows = append(x.Rows, r.row())
	}
	return x
}

func (r reader) row() api.Row {
	return api.Row{Key: r.Text(), Stamp: r.Number(), Val: r.Text()}
}
