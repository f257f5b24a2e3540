package raft

import "skylark/api"

// catchUp comes to a term that is above the node's own, in which it knows nothing yet.
func (n *Node) catchUp(term int) api.Errno {
	if term <= n.ballot.Term() {
		return api.OK
	}
	if e := n.ballot.Turn(term); e != api.OK {
		return e
	}
	n.role, n.leader = RFollow, nobody
	return api.OK
}

// heardBy votes for the one that asks, if the node may, and tells it so or not.
func (a asking) heardBy(n *Node, from int) api.Errno {
	may := n.mayVoteFor(from, a)
	if may {
		if e := n.ballot.Cast(from); e != api.OK {
			return e
		}
		n.waited = 0
	}
	n.send(from, vote{n.header(), may})
	return api.OK
}

// mayVoteFor tells whether a node that asks may be voted for: none that lacks what this one has, nor a second one in a term.
func (n *Node) mayVoteFor(from int, a asking) bool {
	cast := n.ballot.Vote()
	return a.term == n.ballot.Term() && n.log.Behind(a.last, a.lastTerm) && (cast == nobody || cast == from)
}

// heardBy counts a vote. A node that got none lets others ask ahead of it, for most likely its log is not as far as theirs.
func (v vote) heardBy(n *Node, from int) api.Errno {
	if v.term != n.ballot.Term() || n.role != RAsk {
		return api.OK
	}
	if !v.isGiven {
		n.waited = -(n.patience + len(n.peers))
		return api.OK
	}
	n.peers[from].hasVoted = true
	return n.leadIfChosen()
}

// heardBy makes the log as the leader's is, unless the leader's time is over, and tells it how far that went.
func (s entries) heardBy(n *Node, from int) api.Errno {
	if s.term < n.ballot.Term() {
		n.sendRefusal(from)
		return api.OK
	}
	n.role, n.leader, n.waited = RFollow, from, 0
	number, e := n.merge(s.prev, s.prevTerm, s.list)
	switch e {
	case api.OK:
		n.committed = max(n.committed, min(s.committed, number))
		n.send(from, answer{n.header(), true, number})
	case api.ErrIndex, api.ErrShape:
		n.sendRefusal(from)
	case api.ErrRange, api.ErrStale, api.ErrLong:
		return api.ErrPeer
	default:
		return e
	}
	return api.OK
}

// heardBy takes how far another one's log goes. One that refused is sent entries from further ahead at once, so that it need not wait for the next tick.
func (a answer) heardBy(n *Node, from int) api.Errno {
	if a.term != n.ballot.Term() || n.role != RLead {
		return api.OK
	}
	p := &n.peers[from]
	if !a.isTaken {
		p.next = max(1, min(p.next-1, a.number+1))
		n.sendEntries(from)
		return api.OK
	}
	if last, _ := n.log.Last(); a.number <= last {
		p.match = max(p.match, a.number)
		p.next = p.match + 1
		n.commit()
	}
	return api.OK
}
