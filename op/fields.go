package op

import "skylark/api"

func number(n int) api.Field {
	return api.Field{N: int64(n)}
}

func text(s string) api.Field {
	return api.Field{Text: true, S: s}
}

func requestFields(r api.Request) []api.Field {
	list := []api.Field{number(r.Client), number(r.Seq), number(len(r.Ops))}
	for _, x := range r.Ops {
		list = append(list, number(x.Kind), text(x.Key), text(x.Val), number(x.Stamp), number(x.Test), number(x.Most))
	}
	return list
}

func replyFields(r api.Reply) []api.Field {
	list := []api.Field{number(r.Client), number(r.Seq), number(r.Fault.At), number(int(r.Fault.Code)), number(len(r.Results))}
	for _, x := range r.Results {
		list = append(list, number(int(x.Code)), number(x.Stamp), text(x.Val), number(len(x.Rows)))
		for _, row := range x.Rows {
			list = append(list, text(row.Key), number(row.Stamp), text(row.Val))
		}
	}
	return list
}
