package paxos

import (
	"mooring/api"
	"mooring/wire"
)

// most is the highest number that is sent: of decrees, rounds and serials.
const most = 1<<31 - 1

// maxDecree is how many bytes a decree has at most: a monitor's number, a serial, and
// a value with its length.
const maxDecree = 1 + 5 + 2 + api.MaxValue

// decree is a value, and whose it is: the serial-th that mon was asked to propose.
// Equal values are told apart by that.
type decree struct {
	mon, serial int
	value       string
}

// bytes is a decree as it is accepted and told.
func (d decree) bytes() []byte {
	b := wire.Uvarint(nil, uint64(d.mon))
	b = wire.Uvarint(b, uint64(d.serial))
	return wire.Bytes(b, []byte(d.value))
}

// readDecree is the next decree, of one of n monitors.
func readDecree(r *wire.Reader, n int) decree {
	return decree{mon: r.Number(n - 1), serial: r.Number(most), value: string(r.Bytes(api.MaxValue))}
}

// may says whether a monitor can have been asked for it: serials are from 1 on.
func (d decree) may() bool {
	return d.serial >= 1
}

// decreeOf is the decree that an accepted value is; false: it is none.
func decreeOf(v []byte, n int) (decree, bool) {
	r := wire.Read(v)
	d := readDecree(r, n)
	if r.Done() != api.OK || !d.may() {
		return decree{}, false
	}
	return d, true
}
