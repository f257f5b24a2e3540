package trio

import (
	"skylark/api"
	"skylark/disk"
	"skylark/raft"
)

// room is how many bytes each node's disk has room for.
const room = 60000

// member is a node with its disk; whether it is up; and what it took since it was begun or opened last.
type member struct {
	disk *disk.Disk
	node *raft.Node
	isUp bool
	took []api.Entry
}

// begin puts a node up, on a new disk.
func (t *Trio) begin(id int) api.Errno {
	d, e := disk.New(room)
	if e != api.OK {
		return e
	}
	t.members[id].disk = d
	return t.open(id)
}

// open puts a node up with what its disk has.
func (t *Trio) open(id int) api.Errno {
	m := &t.members[id]
	n, e := raft.Open(id, len(t.members), t.patience, m.disk)
	if e != api.OK {
		return e
	}
	m.node, m.isUp, m.took = n, true, nil
	return api.OK
}

// visit lets a call of a node come, unless that is down, and then sends what it wants to send, and takes what it has committed. A node whose disk refuses is down: it has promised what it can't keep, so it is not to be asked any more.
func (t *Trio) visit(id int, call func() api.Errno) api.Errno {
	m := &t.members[id]
	if !m.isUp {
		return api.ErrDown
	}
	e := call()
	if e == api.ErrDown || e == api.ErrSpace {
		m.isUp = false
		return api.ErrDown
	}
	for _, l := range m.node.Letters() {
		t.net.Send(id, l.To, l.Body)
	}
	committed, _ := m.node.Taken(api.MaxIndex)
	m.took = append(m.took, committed...)
	return e
}
