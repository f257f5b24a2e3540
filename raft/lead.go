package raft

import (
	"skylark/api"
	"skylark/code"
)

// maxSent is how many entries a letter takes along.
const maxSent = 8

// ask asks all others for their votes in a new term.
func (n *Node) ask() api.Errno {
	if e := n.ballot.Turn(n.ballot.Term() + 1); e != api.OK {
		return e
	}
	if e := n.ballot.Cast(n.id); e != api.OK {
		return e
	}
	n.role, n.leader = RAsk, nobody
	for i := range n.peers {
		n.peers[i].hasVoted = i == n.id
	}
	last, lastTerm := n.log.Last()
	for _, other := range n.others() {
		n.send(other, asking{n.header(), last, lastTerm})
	}
	return n.leadIfChosen()
}

// leadIfChosen begins to lead, if more than half of all nodes voted for this one; the only node is chosen by itself.
func (n *Node) leadIfChosen() api.Errno {
	votes := 0
	for _, p := range n.peers {
		votes += oneIf(p.hasVoted)
	}
	if 2*votes <= len(n.peers) {
		return api.OK
	}
	return n.lead()
}

// lead begins to lead, by an entry without Data: what stands ahead of it is of other terms, and is committed just by one of this.
func (n *Node) lead() api.Errno {
	n.role, n.leader = RLead, n.id
	last, _ := n.log.Last()
	for i := range n.peers {
		n.peers[i].next, n.peers[i].match = last+1, 0
	}
	_, e := n.extend("")
	return e
}

// extend puts data at the log's end, sends it to all others, and answers its number. The only node gets no answers, so it commits at once.
func (n *Node) extend(data string) (int, api.Errno) {
	number, e := n.append(data)
	if e != api.OK {
		return 0, e
	}
	n.sendEntriesToOthers()
	if len(n.peers) == 1 {
		n.commit()
	}
	return number, api.OK
}

// append puts data at the log's end. The ballot lays out its log anew each time it is asked for it, so the node has one of its own, which goes along with the ballot's.
func (n *Node) append(data string) (int, api.Errno) {
	if _, e := n.ballot.Append(data); e != api.OK {
		return 0, e
	}
	return n.log.Append(api.Entry{Term: n.ballot.Term(), Data: data})
}

// merge makes the log as a leader tells it, the ballot's and the node's own.
func (n *Node) merge(prev, term int, list []api.Entry) (int, api.Errno) {
	number, e := n.ballot.Merge(prev, term, list)
	if e != api.OK {
		return 0, e
	}
	n.log.Merge(prev, term, list)
	return number, api.OK
}

// commit looks how far more than half of all have the log.
func (n *Node) commit() {
	last, _ := n.log.Last()
	match := []int{last}
	for _, other := range n.others() {
		match = append(match, n.peers[other].match)
	}
	n.committed, _ = n.log.Agreed(match, n.ballot.Term(), n.committed)
}

// sendEntriesToOthers sends each other one the entries that it is to get next.
func (n *Node) sendEntriesToOthers() {
	for _, other := range n.others() {
		n.sendEntries(other)
	}
}

func (n *Node) sendEntries(to int) {
	next := n.peers[to].next
	prevTerm, _ := n.log.Term(next - 1)
	list, _ := n.log.Slice(next, maxSent)
	n.send(to, entries{n.header(), next - 1, prevTerm, n.committed, list})
}

// sendRefusal tells a node that its entries were not taken, and how long the log is.
func (n *Node) sendRefusal(to int) {
	last, _ := n.log.Last()
	n.send(to, answer{n.header(), false, last})
}

// send puts a letter to those that the node wants to send. None is refused as bytes: a letter takes few entries along, and logs have none of great Data.
func (n *Node) send(to int, l letter) {
	body, _ := code.Encode(l.fields())
	n.letters = append(n.letters, api.Letter{To: to, Body: body})
}

// header answers that of the letters that the node sends now.
func (n *Node) header() header {
	return header{n.ballot.Term()}
}

// others answers the numbers of all other nodes, rising.
func (n *Node) others() []int {
	var l []int
	for number := range n.peers {
		if n.isOther(number) {
			l = append(l, number)
		}
	}
	return l
}
