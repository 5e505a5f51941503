package ballot

import (
	"bytes"

	"mooring/api"
)

// May tells whether an acceptor may be.
func May(a api.Acceptor) bool {
	if !mayOrNone(a.Promised) || !mayOrNone(a.Accepted) || Less(a.Promised, a.Accepted) {
		return false
	}
	return !none(a.Accepted) || len(a.Value) == 0
}

// Prepare is an acceptor that promised; false: it does not.
func Prepare(a api.Acceptor, b api.Ballot) (api.Acceptor, bool) {
	a.Value = bytes.Clone(a.Value)
	if !free(a, b) {
		return a, false
	}
	a.Promised = b
	return a, true
}

// Accept is an acceptor that accepted; false: it does not.
func Accept(a api.Acceptor, b api.Ballot, v []byte) (api.Acceptor, bool) {
	if !free(a, b) {
		a.Value = bytes.Clone(a.Value)
		return a, false
	}
	// Whoever accepts a ballot promises it, too: else a lower one could follow.
	return api.Acceptor{Promised: b, Accepted: b, Value: bytes.Clone(v)}, true
}

// free says whether an acceptor may turn to a ballot: nothing that it promised is
// against it.
func free(a api.Acceptor, b api.Ballot) bool {
	return May(a) && may(b) && !Less(b, a.Promised)
}
