package chain

import (
	"skylark/api"
	"skylark/code"
)

// done answers up to which number requests are done.
func (m *Member) done() int {
	return m.sure + m.underWay.many()
}

// isFull tells whether no more requests can be under way. None is under way at a tail, so one that is alone is never full.
func (m *Member) isFull() bool {
	return m.underWay.many() >= maxUnderWay
}

// do lets the table do a request, which gets the number behind all that is done. At the tail it has come to its end.
func (m *Member) do(r api.Request, bytes string) {
	m.underWay.put(kept{bytes: bytes, reply: m.replyTo(r)})
	if m.order.isTail() {
		m.settle()
	} else {
		m.sendDown(m.done(), bytes)
	}
}

// replyTo lets the table do a request, and answers what it came to.
func (m *Member) replyTo(r api.Request) api.Reply {
	results, fault := m.table.Do(r.Ops)
	return api.Reply{Client: r.Client, Seq: r.Seq, Results: results, Fault: fault}
}

// settle is what a tail does: it tells the replies of all that is under way, and is sure of it.
func (m *Member) settle() {
	for _, k := range m.beSure(m.done()) {
		m.replies.put(k.reply)
	}
}

// beSure makes the member sure up to a number, tells so, and answers what was under way up to there, which is kept no more.
func (m *Member) beSure(number int) []kept {
	ended := taken(&m.underWay, number-m.sure)
	m.sure = number
	m.tellSure()
	return ended
}

// tellSure tells the one ahead, if there is one, up to where the member is sure.
func (m *Member) tellSure() {
	if who, ok := m.order.ahead(); ok {
		m.send(who, sure{header{m.epoch, m.sure}})
	}
}

// sendDown sends a request to the one behind, if there is one.
func (m *Member) sendDown(number int, bytes string) {
	if who, ok := m.order.behind(); ok {
		m.send(who, down{header: header{m.epoch, number}, bytes: bytes})
	}
}

// send puts a letter behind those that are to be sent. No letter is too long for a list: a request's bytes are few enough.
func (m *Member) send(to int, l letter) {
	body, _ := code.Encode(l.fields())
	m.letters.put(api.Letter{To: to, Body: body})
}
