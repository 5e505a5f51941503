package paxos

import (
	"math"
	"reflect"
	"slices"
	"testing"

	"mooring/api"
	"mooring/wire"
)

// body is numbers one behind the other, as a message has them ahead of its seal.
func body(l ...uint64) []byte {
	var b []byte
	for _, n := range l {
		b = wire.Uvarint(b, n)
	}
	return b
}

// value is a decree's bytes, of any numbers.
func value(mon, serial uint64, text string) []byte {
	return wire.Bytes(body(mon, serial), []byte(text))
}

// asks is a message that has an acceptor in it, of any numbers.
func asks(from, kind, number, round, mon, round2, mon2 uint64, v []byte) []byte {
	return wire.Bytes(body(from, kind, number, round, mon, round2, mon2), v)
}

// tells is a message that tells decrees.
func tells(from, first, known uint64, l ...[]byte) []byte {
	return append(body(from, kindTell, first, known), slices.Concat(l...)...)
}

// reads looks whether monitor 1 of 3 takes what stands ahead of a seal for a message
// of monitor 0.
func reads(t *testing.T, what string, b []byte, want bool) {
	t.Helper()
	if got, ok := decode(sealed(b), 0, 3); ok != want || !ok && !reflect.DeepEqual(got, message{}) {
		t.Errorf("%s: %v and %v", what, got, ok)
	}
	x, _ := New(1, 3)
	e := api.ErrText
	if want {
		e = api.OK
	}
	if l, got := x.Receive(0, sealed(b)); got != e || !want && len(l) > 0 {
		t.Errorf("%s: %v and error %d", what, l, got)
	}
	if !want && (len(x.acceptors) > 0 || x.Len() > 0) {
		t.Errorf("%s turned something", what)
	}
}

// Pa2: messages that ask for something or answer it, with numbers that can be, and
// that can't.
func TestNumbersOfAsking(t *testing.T) {
	const top = 1<<31 - 1
	v := value(2, 1, "v")
	long := string(make([]byte, api.MaxValue))
	for _, c := range []struct {
		what string
		b    []byte
		want bool
	}{
		{"prepare", asks(0, kindPrepare, 1, 1, 0, 0, 0, nil), true},
		{"prepare of the highest", asks(0, kindPrepare, top, top, 0, 0, 0, nil), true},
		{"prepare of another one's ballot", asks(0, kindPrepare, 1, 1, 2, 0, 0, nil), false},
		{"prepare of another one", asks(2, kindPrepare, 1, 1, 2, 0, 0, nil), false},
		{"prepare of nobody", asks(3, kindPrepare, 1, 1, 0, 0, 0, nil), false},
		{"prepare of no decree", asks(0, kindPrepare, 0, 1, 0, 0, 0, nil), false},
		{"prepare of a decree that is too high", asks(0, kindPrepare, top+1, 1, 0, 0, 0, nil), false},
		{"prepare of a decree that is far too high", asks(0, kindPrepare, math.MaxUint64, 1, 0, 0, 0, nil), false},
		{"prepare without a ballot", asks(0, kindPrepare, 1, 0, 0, 0, 0, nil), false},
		{"prepare of a round that is too high", asks(0, kindPrepare, 1, top+1, 0, 0, 0, nil), false},
		{"prepare of a round that is far too high", asks(0, kindPrepare, 1, math.MaxUint64, 0, 0, 0, nil), false},
		{"prepare with something accepted", asks(0, kindPrepare, 1, 1, 0, 1, 0, v), false},
		{"prepare with something accepted below", asks(0, kindPrepare, 1, 2, 0, 1, 0, v), false},
		{"prepare with a value", asks(0, kindPrepare, 1, 1, 0, 0, 0, v), false},

		{"accept", asks(0, kindAccept, 1, 1, 0, 1, 0, v), true},
		{"accept of the longest", asks(0, kindAccept, 1, 1, 0, 1, 0, value(2, top, long)), true},
		{"accept of an empty value", asks(0, kindAccept, 1, 1, 0, 1, 0, value(0, 1, "")), true},
		{"accept of no decree", asks(0, kindAccept, 0, 1, 0, 1, 0, v), false},
		{"accept without a value", asks(0, kindAccept, 1, 1, 0, 1, 0, nil), false},
		{"accept of another one's ballot", asks(0, kindAccept, 1, 1, 2, 1, 2, v), false},
		{"accept of two ballots", asks(0, kindAccept, 1, 2, 0, 1, 0, v), false},
		{"accept above what is promised", asks(0, kindAccept, 1, 1, 0, 2, 0, v), false},
		{"accept of nothing", asks(0, kindAccept, 1, 1, 0, 0, 0, nil), false},
		{"accept of nobody's value", asks(0, kindAccept, 1, 1, 0, 1, 0, value(3, 1, "v")), false},
		{"accept of a value before the first", asks(0, kindAccept, 1, 1, 0, 1, 0, value(2, 0, "v")), false},
		{"accept of a serial that is too high", asks(0, kindAccept, 1, 1, 0, 1, 0, value(2, top+1, "v")), false},
		{"accept of a value that is too long", asks(0, kindAccept, 1, 1, 0, 1, 0, value(2, 1, long+"v")), false},
		{"accept of a value that is cut off", asks(0, kindAccept, 1, 1, 0, 1, 0, v[:len(v)-1]), false},
		{"accept of a value with more behind", asks(0, kindAccept, 1, 1, 0, 1, 0, append(v[:len(v):len(v)], 0)), false},

		{"state that promised", asks(0, kindState, 1, 1, 1, 0, 0, nil), true},
		{"state that promised another one", asks(0, kindState, 1, 7, 2, 0, 0, nil), true},
		{"state that accepted", asks(0, kindState, 1, 1, 1, 1, 1, v), true},
		{"state that accepted, and promised more", asks(0, kindState, 1, 2, 0, 1, 2, v), true},
		{"state of no decree", asks(0, kindState, 0, 1, 1, 0, 0, nil), false},
		{"state that promised nothing", asks(0, kindState, 1, 0, 0, 0, 0, nil), false},
		{"state that promised nobody", asks(0, kindState, 1, 1, 3, 0, 0, nil), false},
		{"state that promised a round 0", asks(0, kindState, 1, 0, 1, 0, 0, nil), false},
		{"state that accepted a round 0", asks(0, kindState, 1, 1, 1, 0, 1, v), false},
		{"state that accepted nobody's", asks(0, kindState, 1, 2, 1, 1, 3, v), false},
		{"state that accepted more than it promised", asks(0, kindState, 1, 1, 1, 1, 2, v), false},
		{"state that accepted what is no decree", asks(0, kindState, 1, 1, 1, 1, 1, []byte("v")), false},
		{"state that accepted nothing, with a value", asks(0, kindState, 1, 1, 1, 0, 0, v), false},

		{"none", nil, false},
		{"a sender alone", body(0), false},
		{"no kind", asks(0, 0, 1, 1, 0, 0, 0, nil), false},
		{"a kind behind the last", asks(0, kindTell+1, 1, 1, 0, 0, 0, nil), false},
		{"a kind that is far too high", asks(0, math.MaxUint64, 1, 1, 0, 0, 0, nil), false},
		{"a number in another form", []byte{0, kindPrepare, 0x81, 0, 1, 0, 0, 0, 0}, false},
		{"the same in its form", []byte{0, kindPrepare, 1, 1, 0, 0, 0, 0}, true},
	} {
		reads(t, c.what, c.b, c.want)
	}
}

// Pa2: messages that tell what is known, with numbers that can be, and that can't.
func TestNumbersOfTelling(t *testing.T) {
	const top = 1<<31 - 1
	v := value(2, 1, "v")
	many := make([][]byte, batch+1)
	for i := range many {
		many[i] = value(1, uint64(i+1), "v")
	}
	for _, c := range []struct {
		what string
		b    []byte
		want bool
	}{
		{"know", body(0, kindKnow, 0), true},
		{"know much", body(0, kindKnow, top), true},
		{"know too much", body(0, kindKnow, top+1), false},
		{"know without how much", body(0, kindKnow), false},
		{"know with more behind", body(0, kindKnow, 1, 0), false},
		{"know of another one", body(2, kindKnow, 0), false},
		{"know of nobody", body(3, kindKnow, 0), false},

		{"tell", tells(0, 1, 1, v), true},
		{"tell a later one", tells(0, 5, 5, v), true},
		{"tell the last that can be", tells(0, top, top, v), true},
		{"tell two", tells(0, 1, 2, v, value(0, 7, "")), true},
		{"tell as many as can be told", tells(0, 1, batch, many[:batch]...), true},
		{"tell as many, and know more", tells(0, 1, batch+1, many[:batch]...), true},
		{"tell more than can be told", tells(0, 1, batch+1, many...), false},
		{"tell none", tells(0, 1, 0), false},
		{"tell none, and know one", tells(0, 1, 1), false},
		{"tell fewer than are known", tells(0, 1, 2, v), false},
		{"tell more than are known", tells(0, 1, 1, v, v), false},
		{"tell one that is not known", tells(0, 2, 1, v), false},
		{"tell from none on", tells(0, 0, 0, v), false},
		{"tell from none on, and know one", tells(0, 0, 1, v, v), false},
		{"tell of too many", tells(0, 1, top+1, many[:batch]...), false},
		{"tell from too far on", tells(0, top+1, top+1, v), false},
		{"tell nobody's", tells(0, 1, 1, value(3, 1, "v")), false},
		{"tell one before the first", tells(0, 1, 1, value(2, 0, "v")), false},
		{"tell one before the first, behind another", tells(0, 1, 2, v, value(2, 0, "v")), false},
		{"tell one that is too long", tells(0, 1, 1, value(2, 1, string(make([]byte, api.MaxValue+1)))), false},
		{"tell one that is cut off", tells(0, 1, 1, v[:len(v)-1]), false},
		{"tell of another one", tells(2, 1, 1, v), false},
	} {
		reads(t, c.what, c.b, c.want)
	}
}

// Pa2: what is written is read back, of all kinds.
func TestMessagesAreReadBack(t *testing.T) {
	d := []decree{{0, 1, ""}, {6, 1<<31 - 1, string(make([]byte, api.MaxValue))}, {3, 300, "value"}}
	full := make([]decree, batch)
	for i := range full {
		full[i] = d[1]
	}
	low, high := api.Ballot{Round: 1, Mon: 2}, api.Ballot{Round: 1<<31 - 1, Mon: 6}
	for _, m := range []message{
		{kind: kindPrepare, number: 1, state: api.Acceptor{Promised: low}},
		{kind: kindPrepare, number: 1<<31 - 1, state: api.Acceptor{Promised: low}},
		{kind: kindAccept, number: 300, state: api.Acceptor{Promised: low, Accepted: low, Value: d[1].bytes()}},
		{kind: kindState, number: 2, state: api.Acceptor{Promised: high}},
		{kind: kindState, number: 2, state: api.Acceptor{Promised: high, Accepted: low, Value: d[0].bytes()}},
		{kind: kindState, number: 2, state: api.Acceptor{Promised: high, Accepted: high, Value: d[2].bytes()}},
		{kind: kindKnow},
		{kind: kindKnow, number: 1<<31 - 1},
		{kind: kindTell, number: 5, known: 7, decrees: d},
		{kind: kindTell, number: 5, known: 1 << 20, decrees: full},
	} {
		b := encode(m, 2)
		if len(b) >= api.MaxBytes {
			t.Errorf("kind %d has %d bytes", m.kind, len(b))
		}
		got, ok := decode(b, 2, 7)
		if m.state.Value == nil {
			got.state.Value = nil // no bytes are nil, or empty
		}
		if !ok || !reflect.DeepEqual(got, m) {
			t.Errorf("%v is read as %v and %v", m, got, ok)
		}
		if !slices.Equal(encode(got, 2), b) {
			t.Errorf("%v is written in two forms", m)
		}
	}
}

// Pa2: the seal is FNV-1a of 64 bits, behind the rest, the lowest byte first.
func TestSeal(t *testing.T) {
	for text, want := range map[string]uint64{"": 0xcbf29ce484222325, "a": 0xaf63dc4c8601ec8c, "foobar": 0x85944171f73967e8} {
		if got := seal([]byte(text)); got != want {
			t.Errorf("the seal of %q is %x, and not %x", text, got, want)
		}
	}
	b := sealed([]byte("a"))
	if want := []byte{'a', 0x8c, 0xec, 0x01, 0x86, 0x4c, 0xdc, 0x63, 0xaf}; !slices.Equal(b, want) {
		t.Errorf("%x, and not %x", b, want)
	}
	for n := range 9 {
		if _, ok := unsealed(b[n+1:]); ok {
			t.Errorf("%x is taken for sealed", b[n+1:])
		}
	}
}

// Rule 8 of the language: what is kept is no more than is needed: of a decree that is
// known nothing is promised any more.
func TestLittleIsKept(t *testing.T) {
	x, _ := New(0, 1)
	for range 100 {
		x.Propose([]byte("v"))
		x.Tick()
	}
	if x.Len() != 100 || len(x.acceptors) != 0 || x.bid != nil || len(x.waiting) != 0 {
		t.Errorf("%d decrees: %v, %v, %v", x.Len(), x.acceptors, x.bid, x.waiting)
	}
}

func BenchmarkDecode(b *testing.B) {
	d := decree{0, 1, string(make([]byte, 100))}
	data := encode(message{kind: kindTell, number: 1, known: 1, decrees: []decree{d}}, 0)
	for b.Loop() {
		decode(data, 0, 3)
	}
}
