package ballot

import (
	"strings"

	"skylark/api"
	"skylark/code"
	"skylark/fields"
)

// fileName is the name of the file that has a ballot.
const fileName = "ballot"

// What lists of the file begin with.
const (
	markStanding = 1
	markEntry    = 2
	markCut      = 3
)

func standingList(term, vote int) []api.Field {
	return []api.Field{fields.Number(markStanding), fields.Number(term), fields.Number(vote)}
}

func entryList(e api.Entry) []api.Field {
	return []api.Field{fields.Number(markEntry), fields.Number(e.Term), fields.Text(e.Data)}
}

func cutList(first int) []api.Field {
	return []api.Field{fields.Number(markCut), fields.Number(first)}
}

// write puts lists at the file's end, as one piece, and makes all safe; without lists there is nothing to do. A piece that no disk has room for is not laid out to its end: the disk refuses what there is of it as it would refuse all of it.
func (b *Ballot) write(lists ...[]api.Field) api.Errno {
	if len(lists) == 0 {
		return api.OK
	}
	var piece strings.Builder
	for _, list := range lists {
		frame, e := frameOf(list)
		if e != api.OK {
			return e
		}
		piece.WriteString(frame)
		if piece.Len() > api.MaxBytes {
			break
		}
	}
	if e := b.disk.Append(fileName, piece.String()); e != api.OK {
		return e
	}
	return b.disk.Sync()
}

// frameOf answers a list as it stands in the file.
func frameOf(list []api.Field) (string, api.Errno) {
	body, e := code.Encode(list)
	if e != api.OK {
		return "", e
	}
	return code.Frame(body)
}

// load takes what the file tells, and cuts off what a crash left of a frame at its end. A file that is not there reads as an empty one.
func (b *Ballot) load() api.Errno {
	file, _ := b.disk.Read(fileName)
	r := reading{nodes: b.nodes, vote: nobody}
	whole, ok := r.takeAll(file)
	if !ok {
		return api.ErrCorrupt
	}
	b.term, b.vote, b.log = r.term, r.vote, logOf(r.entries)
	if whole == len(file) {
		return api.OK
	}
	return b.disk.Cut(fileName, whole)
}
