package table

import (
	"strings"

	"skylark/api"
)

// alone does one operation, which may be; one that is not OK changes nothing.
func (t *Table) alone(x api.Op) api.Result {
	switch x.Kind {
	case api.OAdd:
		return t.add(x)
	case api.OReplace:
		return t.replace(x)
	case api.OSet:
		return t.set(x)
	case api.ODelete:
		return t.remove(x)
	case api.OGet:
		return t.get(x)
	}
	return t.many(x)
}

func (t *Table) add(x api.Op) api.Result {
	at, there := find(t.rows, x.Key)
	if there {
		return api.Result{Code: api.ErrExists, Stamp: t.rows[at].Stamp}
	}
	if len(x.Val) > api.MaxVal {
		return api.Result{Code: api.ErrBig}
	}
	if len(t.rows) >= api.MaxItems {
		return api.Result{Code: api.ErrSpace}
	}
	t.rows = with(t.rows, at, at, row(x))
	return api.Result{Stamp: x.Stamp}
}

func (t *Table) replace(x api.Op) api.Result {
	at, r := t.tested(x)
	if r.Code != api.OK {
		return r
	}
	if x.Stamp <= r.Stamp {
		return api.Result{Code: api.ErrStamp, Stamp: r.Stamp}
	}
	if len(x.Val) > api.MaxVal {
		return api.Result{Code: api.ErrBig}
	}
	t.rows = with(t.rows, at, at+1, row(x))
	return api.Result{Stamp: x.Stamp}
}

// set adds where nothing is there; a test of a stamp then fails, as it does in replace.
func (t *Table) set(x api.Op) api.Result {
	if _, there := find(t.rows, x.Key); there || x.Test != 0 {
		return t.replace(x)
	}
	return t.add(x)
}

func (t *Table) remove(x api.Op) api.Result {
	at, r := t.tested(x)
	if r.Code == api.OK {
		t.rows = without(t.rows, at, at+1)
	}
	return r
}

func (t *Table) get(x api.Op) api.Result {
	at, r := t.tested(x)
	if r.Code == api.OK {
		r.Val = strings.Clone(t.rows[at].Val)
	}
	return r
}

func (t *Table) many(x api.Op) api.Result {
	from, _ := find(t.rows, x.Key)
	to := min(len(t.rows), from+x.Most)
	return api.Result{Rows: copied(t.rows[from:to])}
}

// tested answers where the row of an operation's key is, with OK and its stamp, if that is the stamp that the operation asks for; else why not.
func (t *Table) tested(x api.Op) (int, api.Result) {
	at, there := find(t.rows, x.Key)
	if !there {
		return 0, api.Result{Code: api.ErrMissing}
	}
	stamp := t.rows[at].Stamp
	if x.Test != 0 && x.Test != stamp {
		return 0, api.Result{Code: api.ErrStamp, Stamp: stamp}
	}
	return at, api.Result{Stamp: stamp}
}

// row is what an operation writes, in memory of its own.
func row(x api.Op) api.Row {
	return copiedRow(api.Row{Key: x.Key, Stamp: x.Stamp, Val: x.Val})
}
