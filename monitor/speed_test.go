package monitor_test

import (
	"testing"

	"mooring/api"
	"mooring/monitor"
)

// BenchmarkDecide is a change that three monitors decide, up to its map.
func BenchmarkDecide(b *testing.B) {
	l := make([]node, 3)
	x := newMonitor(b, 0, 3, pool)
	l[0] = x
	for id := 1; id < 3; id++ {
		l[id] = newMonitor(b, id, 3, pool)
	}
	x.Ask(add(1))
	plainRounds(b, l, 3)
	b.ReportAllocs()
	i := 0
	for b.Loop() {
		i++
		x.Ask(weight(1, i%api.MaxWeight))
		plainRounds(b, l, 1)
		x.Epoch()
	}
}

// long is a monitor of 64 OSDs and a thousand epochs.
func long(b *testing.B) *monitor.Monitor {
	b.Helper()
	x := newMonitor(b, 0, 1, pool)
	for id := range api.MaxOsds {
		x.Ask(add(id))
	}
	x.Tick()
	for x.Epoch() < 1000 {
		x.Ask(weight(x.Epoch()%api.MaxOsds, x.Epoch()))
		x.Tick()
	}
	return x
}

// BenchmarkLastMap is the last map of a thousand.
func BenchmarkLastMap(b *testing.B) {
	x := long(b)
	b.ReportAllocs()
	for b.Loop() {
		x.Map(1000)
	}
}

// BenchmarkElderMap is the last but one of thex.
func BenchmarkElderMap(b *testing.B) {
	x := long(b)
	b.ReportAllocs()
	for b.Loop() {
		x.Map(999)
	}
}

// BenchmarkChanges is all changes up to it.
func BenchmarkChanges(b *testing.B) {
	x := long(b)
	b.ReportAllocs()
	for b.Loop() {
		x.Changes()
	}
}
