package wal

import (
	"skylark/api"
	"skylark/code"
)

// maxBody is how many bytes a body may have, so that its record may stand in a frame.
const maxBody = 60000

func isBrick(n int) bool {
	return isWithin(n, 0, api.MaxNodes-1)
}

// frameOf answers a record as it stands in a segment.
func frameOf(r api.Record) (string, api.Errno) {
	list, e := code.Encode([]api.Field{{N: int64(r.Seq)}, {N: int64(r.Brick)}, {Text: true, S: r.Body}})
	if e != api.OK {
		return "", e
	}
	return code.Frame(list)
}

// recordAt reads the record whose frame begins at a place, and answers the place behind it: ErrEnd, if the file ends within the frame; ErrCorrupt, if there is anything but the record of that number.
func recordAt(file string, at, seq int) (api.Record, int, api.Errno) {
	body, end, f := code.Unframe(file, at)
	if f.Code == api.ErrEnd {
		return api.Record{}, 0, api.ErrEnd
	}
	if f.Code != api.OK {
		return api.Record{}, 0, api.ErrCorrupt
	}
	list, f := code.Decode(body)
	if f.Code != api.OK || !isRecord(list) || list[0].N != int64(seq) {
		return api.Record{}, 0, api.ErrCorrupt
	}
	return api.Record{Seq: seq, Brick: int(list[1].N), Body: list[2].S}, end, api.OK
}

// isRecord tells whether a list is a record's. Numbers are held against limits ahead of becoming an int, which may hold less than a field.
func isRecord(list []api.Field) bool {
	if len(list) != 3 || list[0].Text || list[1].Text || !list[2].Text {
		return false
	}
	return list[1].N >= 0 && list[1].N < api.MaxNodes
}
