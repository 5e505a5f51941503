package paxos

import (
	"bytes"

	"mooring/api"
	"mooring/ballot"
	"mooring/wire"
)

// The kinds of messages.
const (
	kindPrepare = 1 + iota // asks for a promise
	kindAccept             // asks to accept
	kindState              // answers both: what the sender promised and accepted
	kindKnow               // how many decrees the sender knows
	kindTell               // decrees
)

// batch is how many decrees one message tells at most: the longest ones are well
// below MaxBytes then.
const batch = 64

// sealSize is how many bytes a seal has.
const sealSize = 8

// message is what monitors send. What is asked for is an acceptor, too: as the one
// that is asked is to be.
type message struct {
	kind    int
	number  int          // which decree it is about; kindKnow: how many are known; kindTell: which is the first
	state   api.Acceptor // kindPrepare, kindAccept, kindState
	known   int          // kindTell: how many the sender knows
	decrees []decree     // kindTell
}

// encode is a message's bytes.
func encode(m message, from int) []byte {
	b := wire.Uvarint(nil, uint64(from))
	b = wire.Uvarint(b, uint64(m.kind))
	b = wire.Uvarint(b, uint64(m.number))
	switch m.kind {
	case kindKnow:
	case kindTell:
		b = wire.Uvarint(b, uint64(m.known))
		for _, d := range m.decrees {
			b = append(b, d.bytes()...)
		}
	default:
		b = writeBallot(b, m.state.Promised)
		b = writeBallot(b, m.state.Accepted)
		b = wire.Bytes(b, m.state.Value)
	}
	return sealed(b)
}

// decode is the message of which these are the bytes; false: it is none that the
// monitor from, of n, sends.
func decode(b []byte, from, n int) (message, bool) {
	body, ok := unsealed(b)
	if !ok {
		return message{}, false
	}
	r := wire.Read(body)
	sender := r.Number(n - 1)
	m := message{kind: r.Number(kindTell), number: r.Number(most)}
	switch m.kind {
	case kindKnow:
	case kindTell:
		m.known = r.Number(most)
		m.decrees = readDecrees(r, told(m.number, m.known), n)
	default:
		m.state.Promised = readBallot(r, n)
		m.state.Accepted = readBallot(r, n)
		m.state.Value = r.Bytes(maxDecree)
	}
	if r.Done() != api.OK || sender != from || !m.may(from, n) {
		return message{}, false
	}
	return m, true
}

// told is how many decrees are told at once from one on, by who knows so many.
func told(first, known int) int {
	return min(known-first+1, batch)
}

// readDecrees is the next so many decrees, as far as they can be read.
func readDecrees(r *wire.Reader, count, n int) []decree {
	var out []decree
	for len(out) < count && r.Err() == api.OK {
		out = append(out, readDecree(r, n))
	}
	return out
}

// writeBallot lets a ballot follow.
func writeBallot(b []byte, v api.Ballot) []byte {
	return wire.Uvarint(wire.Uvarint(b, uint64(v.Round)), uint64(v.Mon))
}

// readBallot is the next ballot, of one of n monitors.
func readBallot(r *wire.Reader, n int) api.Ballot {
	return api.Ballot{Round: r.Number(most), Mon: r.Number(n - 1)}
}

// may says whether a monitor can have sent a message that was read: numbers that are
// too great were refused by then.
func (m message) may(from, n int) bool {
	state := m.number >= 1 && mayState(m.state, n)
	own := state && m.state.Promised.Mon == from
	switch m.kind {
	case kindPrepare:
		return own && m.state.Accepted == api.Ballot{}
	case kindAccept:
		return own && m.state.Accepted == m.state.Promised
	case kindState:
		return state
	case kindKnow:
		return true
	case kindTell:
		return m.number >= 1 && len(m.decrees) > 0 && allMay(m.decrees)
	}
	return false
}

// allMay says whether all decrees may be.
func allMay(l []decree) bool {
	for _, d := range l {
		if !d.may() {
			return false
		}
	}
	return true
}

// mayState says whether a monitor that was asked for something can be so: it has
// promised something, and what it accepted is a decree.
func mayState(a api.Acceptor, n int) bool {
	if !ballot.May(a) || a.Promised == (api.Ballot{}) {
		return false
	}
	if a.Accepted == (api.Ballot{}) {
		return true
	}
	_, ok := decreeOf(a.Value, n)
	return ok
}

// sealed is bytes with their seal behind them. Without it bytes that nobody sent
// could be read, if they are of the right form, and a value be a decree that nobody
// proposed.
func sealed(b []byte) []byte {
	return wire.Fixed8(b, seal(b))
}

// unsealed is what stands ahead of a seal; false: that is not its seal.
func unsealed(b []byte) ([]byte, bool) {
	if len(b) < sealSize {
		return nil, false
	}
	body := b[:len(b)-sealSize]
	return body, bytes.Equal(sealed(body), b)
}

// seal is a number that each byte turns (FNV-1a, of 64 bits).
func seal(b []byte) uint64 {
	sum := uint64(14695981039346656037)
	for _, v := range b {
		sum = (sum ^ uint64(v)) * 1099511628211
	}
	return sum
}
