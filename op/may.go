package op

import "skylark/api"

const (
	maxClient = 1000
	maxRows   = 100
	maxCode   = 300
	// Twice what a table takes, so that a value that is too big comes as far as the table, which tells so.
	maxValue = 2 * api.MaxVal
)

// mayBe tells whether an operation may be: what its kind has no use for is 0 or empty.
func mayBe(x api.Op) bool {
	switch kind(x.Kind) {
	case kindAdd:
		return isPut(x) && x.Test == 0
	case kindReplace, kindSet:
		return isPut(x) && isStampOrNone(x.Test)
	case kindDelete, kindGet:
		return isKey(x.Key) && isStampOrNone(x.Test) && x.Val == "" && x.Stamp == 0 && x.Most == 0
	case kindMany:
		return len(x.Key) <= api.MaxKey && isWithin(x.Most, 1, maxRows) && x.Val == "" && x.Stamp == 0 && x.Test == 0
	}
	return false
}

// isPut tells whether an operation names a whole row, and nothing that only reading has a use for.
func isPut(x api.Op) bool {
	return isKey(x.Key) && isValue(x.Val) && isStamp(x.Stamp) && x.Most == 0
}

func requestMayBe(r api.Request) bool {
	if !isAsked(r.Client, r.Seq) || !isWithin(len(r.Ops), 1, api.MaxOps) {
		return false
	}
	for _, x := range r.Ops {
		if !mayBe(x) {
			return false
		}
	}
	return true
}

// replyMayBe tells whether a reply may be: it has results, or a fault that says why there are none.
func replyMayBe(r api.Reply) bool {
	if !isAsked(r.Client, r.Seq) {
		return false
	}
	if len(r.Results) == 0 {
		return r.Fault.Code != api.OK
	}
	if len(r.Results) > api.MaxOps || r.Fault != (api.Fault{}) {
		return false
	}
	for _, x := range r.Results {
		if !resultMayBe(x) {
			return false
		}
	}
	return true
}

func resultMayBe(x api.Result) bool {
	if !isWithin(int(x.Code), 0, maxCode) || !isStampOrNone(x.Stamp) || !isValue(x.Val) || len(x.Rows) > maxRows {
		return false
	}
	for _, row := range x.Rows {
		if !isKey(row.Key) || !isStamp(row.Stamp) || !isValue(row.Val) {
			return false
		}
	}
	return true
}

// isAsked tells whether there can be a request of that client and number.
func isAsked(client, seq int) bool {
	return isWithin(client, 0, maxClient) && isWithin(seq, 1, api.MaxIndex)
}

func isKey(s string) bool {
	return isWithin(len(s), 1, api.MaxKey)
}

func isValue(s string) bool {
	return len(s) <= maxValue
}

func isStamp(n int) bool {
	return isWithin(n, 1, api.MaxStamp)
}

// isStampOrNone tells whether a number is a stamp, or the 0 that stands for none.
func isStampOrNone(n int) bool {
	return n == 0 || isStamp(n)
}

func isWithin(n, least, most int) bool {
	return n >= least && n <= most
}
