package op

import (
	"skylark/api"
	"skylark/fields"
)

func requestFields(r api.Request) []api.Field {
	list := []api.Field{fields.Number(r.Client), fields.Number(r.Seq), fields.Number(len(r.Ops))}
	for _, x := range r.Ops {
		list = append(list, fields.Number(x.Kind), fields.Text(x.Key), fields.Text(x.Val))
		list = append(list, fields.Number(x.Stamp), fields.Number(x.Test), fields.Number(x.Most))
	}
	return list
}

func replyFields(r api.Reply) []api.Field {
	list := []api.Field{fields.Number(r.Client), fields.Number(r.Seq)}
	list = append(list, fields.Number(r.Fault.At), fields.Number(int(r.Fault.Code)), fields.Number(len(r.Results)))
	for _, x := range r.Results {
		list = append(list, fields.Number(int(x.Code)), fields.Number(x.Stamp), fields.Text(x.Val), fields.Number(len(x.Rows)))
		for _, row := range x.Rows {
			list = append(list, fields.Text(row.Key), fields.Number(row.Stamp), fields.Text(row.Val))
		}
	}
	return list
}
