package paxos

import (
	"mooring/api"
	"mooring/ballot"
)

// bid is how a monitor asks for the next decree, while a value waits.
type bid struct {
	number int
	ballot api.Ballot
	value  []byte               // a decree; none: more than half must promise first
	told   map[int]api.Acceptor // what the others promised and accepted, as they told last
}

// request is what the others are asked.
func (b *bid) request() message {
	state := api.Acceptor{Promised: b.ballot}
	if len(b.value) == 0 {
		return message{kind: kindPrepare, number: b.number, state: state}
	}
	state.Accepted, state.Value = b.ballot, b.value
	return message{kind: kindAccept, number: b.number, state: state}
}

// answered says whether another one did what it is asked.
func (b *bid) answered(mon int) bool {
	if len(b.value) == 0 {
		return b.told[mon].Promised == b.ballot
	}
	return b.told[mon].Accepted == b.ballot
}

// urge asks for what waits: with a higher ballot, if one is in the way of the last
// one, else once more, for messages may be lost. Only a Tick does that: if a refusal
// did, two monitors could refuse each other for ever.
func (x *Node) urge() []api.Mail {
	if x.bid != nil && !x.outbid() {
		return x.ask()
	}
	return x.start()
}

// start asks for the oldest value that waits.
func (x *Node) start() []api.Mail {
	return append(x.begin(), x.drive()...)
}

// begin is a bid for the next decree, if something waits.
func (x *Node) begin() []api.Mail {
	number := len(x.decrees) + 1
	next, ok := ballot.Next(x.highest(), x.id)
	if !ok || len(x.waiting) == 0 {
		return nil
	}
	// It promises that itself ahead of all: a crash keeps it, so that no ballot is
	// begun twice, with two values.
	x.acceptors[number], _ = ballot.Prepare(x.acceptors[number], next)
	x.bid = &bid{number: number, ballot: next, told: make(map[int]api.Acceptor)}
	return x.ask()
}

// ask asks all others that did not do yet what the bid needs.
func (x *Node) ask() []api.Mail {
	var out []api.Mail
	for mon := range x.n {
		if mon != x.id && !x.bid.answered(mon) {
			out = append(out, x.send(mon, x.bid.request()))
		}
	}
	return out
}

// hear takes what another one promised and accepted.
func (x *Node) hear(from int, m message) []api.Mail {
	if x.bid == nil || x.bid.number != m.number {
		return nil
	}
	was := x.bid.told[from]
	if ballot.Less(m.state.Promised, was.Promised) || ballot.Less(m.state.Accepted, was.Accepted) {
		return nil // it was so ahead of what is known already
	}
	x.bid.told[from] = m.state
	return x.drive()
}

// drive goes on with the bid as far as it can: alone a monitor comes to the end of
// all that waits.
func (x *Node) drive() []api.Mail {
	var out []api.Mail
	for x.bid != nil {
		if _, v, ok := ballot.Chosen(x.states()); ok {
			out = append(out, x.settle(v)...)
			continue
		}
		promised := x.promised()
		if len(x.bid.value) > 0 || len(promised) <= x.n/2 {
			break
		}
		out = append(out, x.pick(promised)...)
	}
	return out
}

// pick asks those that promised to accept the value that they leave open, or that
// they accepted already.
func (x *Node) pick(promised []api.Acceptor) []api.Mail {
	b := x.bid
	b.value = ballot.Pick(promised, x.waiting[0].bytes())
	x.acceptors[b.number], _ = ballot.Accept(x.acceptors[b.number], b.ballot, b.value)
	return x.ask()
}

// settle takes a chosen value for the next decree, tells all others, and asks for
// what still waits.
func (x *Node) settle(v []byte) []api.Mail {
	// It is one: what is no decree was refused when it came.
	d, _ := decreeOf(v, x.n)
	x.learn(d)
	var out []api.Mail
	for mon := range x.n {
		if mon != x.id {
			out = append(out, x.tell(mon, len(x.decrees)))
		}
	}
	return append(out, x.begin()...)
}

// states is what all monitors promised and accepted of the bid's decree, as far as it
// is known; of itself as it is now.
func (x *Node) states() []api.Acceptor {
	out := make([]api.Acceptor, x.n)
	for mon := range out {
		out[mon] = x.bid.told[mon]
	}
	out[x.id] = x.acceptors[x.bid.number]
	return out
}

// promised is those that promised the bid's ballot, and no higher one since.
func (x *Node) promised() []api.Acceptor {
	var out []api.Acceptor
	for _, a := range x.states() {
		if a.Promised == x.bid.ballot {
			out = append(out, a)
		}
	}
	return out
}

// outbid says whether a higher ballot is in the bid's way.
func (x *Node) outbid() bool {
	return ballot.Less(x.bid.ballot, x.highest())
}

// highest is the highest ballot that is known to be promised for the next decree.
func (x *Node) highest() api.Ballot {
	high := x.acceptors[len(x.decrees)+1].Promised
	if x.bid == nil {
		return high
	}
	for _, a := range x.states() {
		if ballot.Less(high, a.Promised) {
			high = a.Promised
		}
	}
	return high
}
