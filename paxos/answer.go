package paxos

import (
	"mooring/api"
	"mooring/ballot"
)

// greet tells one of the others how many decrees are known, at each Tick the next
// one: so who missed some comes to know them, even if nobody proposes anything.
func (x *Node) greet() []api.Mail {
	if x.n == 1 {
		return nil
	}
	x.turn = x.turn%(x.n-1) + 1
	return []api.Mail{x.say((x.id + x.turn) % x.n)}
}

// say tells another one how many decrees are known.
func (x *Node) say(to int) api.Mail {
	return x.send(to, message{kind: kindKnow, number: len(x.decrees)})
}

// tell tells another one decrees, from one on that is known.
func (x *Node) tell(to, first int) api.Mail {
	known := len(x.decrees)
	list := x.decrees[first-1:][:told(first, known)]
	return x.send(to, message{kind: kindTell, number: first, known: known, decrees: list})
}

// compare holds what is known against how many decrees another one knows: who has
// fewer is told some.
func (x *Node) compare(from, known int) []api.Mail {
	switch {
	case known < len(x.decrees):
		return []api.Mail{x.tell(from, known+1)}
	case known > len(x.decrees):
		return []api.Mail{x.say(from)}
	}
	return nil
}

// take learns those of the decrees told that come next.
func (x *Node) take(from int, m message) []api.Mail {
	before := len(x.decrees)
	for i, d := range m.decrees {
		if m.number+i == len(x.decrees)+1 {
			x.learn(d)
		}
	}
	more := len(x.decrees) > before
	gap := m.number > len(x.decrees)+1
	switch {
	case !more && !gap:
		// It is late, or came twice: what it leads to was done already, and all that
		// is missing would be told once more.
		return nil
	case len(x.decrees) < m.known:
		return []api.Mail{x.say(from)}
	}
	return x.start()
}

// answer promises or accepts what is asked for, if it may, and tells what it has
// promised and accepted then; of a decree that it knows it tells that.
func (x *Node) answer(from int, m message) []api.Mail {
	if m.number <= len(x.decrees) {
		return []api.Mail{x.tell(from, m.number)}
	}
	a := x.acceptors[m.number]
	if m.kind == kindPrepare {
		a, _ = ballot.Prepare(a, m.state.Promised)
	} else {
		a, _ = ballot.Accept(a, m.state.Promised, m.state.Value)
	}
	x.acceptors[m.number] = a
	return []api.Mail{x.send(from, message{kind: kindState, number: m.number, state: a})}
}
