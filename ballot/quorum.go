package ballot

import (
	"bytes"
	"slices"

	"mooring/api"
)

// Pick is the value that must be asked for.
func Pick(l []api.Acceptor, own []byte) []byte {
	highest := -1
	for i, a := range l {
		if none(a.Accepted) {
			continue
		}
		if highest < 0 || Less(l[highest].Accepted, a.Accepted) {
			highest = i
		}
	}
	if highest < 0 {
		return bytes.Clone(own)
	}
	return bytes.Clone(l[highest].Value)
}

// Chosen is the value that more than half accepted; false: there is none.
func Chosen(l []api.Acceptor) (api.Ballot, []byte, bool) {
	// An acceptor counts for one ballot alone, so that no two have more than half:
	// in which order they are gone through does not matter.
	for b, n := range count(l) {
		if n > len(l)/2 {
			return b, valueOf(l, b), true
		}
	}
	return api.Ballot{}, nil, false
}

// count is how many have accepted each ballot.
func count(l []api.Acceptor) map[api.Ballot]int {
	out := make(map[api.Ballot]int)
	for _, a := range l {
		if !none(a.Accepted) {
			out[a.Accepted]++
		}
	}
	return out
}

// valueOf is the value that the first one accepted with a ballot.
func valueOf(l []api.Acceptor, b api.Ballot) []byte {
	first := slices.IndexFunc(l, func(a api.Acceptor) bool { return a.Accepted == b })
	return bytes.Clone(l[first].Value)
}
