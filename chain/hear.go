package chain

import "skylark/api"

// heardBy lets a member take the next request. One that it is sure of comes again because the one ahead does not know that; of others that it has, it will be told by the one behind; those further on are sent again behind the next.
func (d down) heardBy(m *Member, from int) api.Errno {
	if who, ok := m.order.ahead(); !ok || who != from {
		return api.ErrPeer
	}
	if d.number <= m.sure {
		m.tellSure()
		return api.OK
	}
	if d.number != m.done()+1 {
		return api.OK
	}
	if m.isFull() {
		return api.ErrLong
	}
	m.do(d.request, d.bytes)
	return api.OK
}

// heardBy lets a member be as sure as the one behind.
func (s sure) heardBy(m *Member, from int) api.Errno {
	if who, ok := m.order.behind(); !ok || who != from || s.number > m.done() {
		return api.ErrPeer
	}
	if s.number > m.sure {
		m.beSure(s.number)
	}
	return api.OK
}
