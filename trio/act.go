package trio

import (
	"skylark/api"
	"skylark/net"
)

// fuses is below how many calls a fuse of an act is.
const fuses = 40

// maxCarried is how many letters at most are carried in a round, so that it ends though letters bring forth others.
const maxCarried = 2000

// tick lets a tick of a node go by.
func (t *Trio) tick(id int) {
	t.visit(id, t.members[id].node.Tick)
}

// propose asks a node to put data at the log's end, and answers its number there.
func (t *Trio) propose(id int, data string) (int, api.Errno) {
	number := 0
	refused := t.visit(id, func() api.Errno {
		n, e := t.members[id].node.Propose(data)
		number = n
		return e
	})
	return number, refused
}

// withLetter does something with the letter that a number says, if any is on its way.
func (t *Trio) withLetter(number int, do func(id int)) {
	if l := t.net.Letters(); len(l) > 0 {
		do(l[wrapped(number, len(l))].Id)
	}
}

// deliver takes a letter, unless its nodes are parted, and lets it be heard.
func (t *Trio) deliver(id int) {
	if l, e := t.net.Take(id); e == api.OK {
		t.hear(l)
	}
}

func (t *Trio) lose(id int) {
	t.net.Lose(id)
}

func (t *Trio) double(id int) {
	t.net.Copy(id)
}

// carry takes a letter and lets it be heard; one whose nodes are parted is lost.
func (t *Trio) carry(id int) {
	l, e := t.net.Take(id)
	if e != api.OK {
		t.lose(id)
		return
	}
	t.hear(l)
}

// hear lets a letter be heard by its node, if that is up.
func (t *Trio) hear(l net.Letter) {
	t.visit(l.To, func() api.Errno {
		return t.members[l.To].node.Hear(l.From, l.Body)
	})
}

// crash opens a node again with what its disk kept. Nothing else is left of it, on its way neither.
func (t *Trio) crash(id int, draws []int) {
	if len(draws) > api.MaxItems {
		draws = nil
	}
	t.members[id].disk.Crash(draws)
	t.net.Drop(id)
	t.open(id)
}

// round lets a tick of each node go by, and carries letters till none is on its way. New letters come behind all others, so those that are there are carried in one go, and looked up just then.
func (t *Trio) round() {
	for id := range t.members {
		t.tick(id)
	}
	left := maxCarried
	for left > 0 {
		l := t.net.Letters()
		if len(l) == 0 {
			return
		}
		l = l[:min(left, len(l))]
		for _, letter := range l {
			t.carry(letter.Id)
		}
		left -= len(l)
	}
}
