package shard

import (
	"slices"
	"strings"

	"mooring/api"
)

// The shards that are turned here may be, and nobody else has their memory.

// do does an entry that is the next one.
func do(s *api.Shard, e api.Entry, c api.Chunk) {
	was, has := Get(*s, e.Name)
	s.Undos = append(s.Undos, api.Undo{Seq: e.Seq, Name: e.Name, Has: has, Was: was})
	s.Log = append(s.Log, e)
	if e.Code == api.OK {
		set(s, e.Name, !e.Gone, copiedChunk(c))
	}
}

// takeBack takes the last entry back; it has an Undo.
func takeBack(s *api.Shard) {
	last := len(s.Undos) - 1
	u := s.Undos[last]
	set(s, u.Name, u.Has, u.Was)
	// Delete clears what it leaves behind the end: the chunk is the item's alone.
	s.Undos = slices.Delete(s.Undos, last, last+1)
	s.Log = slices.Delete(s.Log, Head(*s)-1, Head(*s))
}

// set lets a shard have a chunk of an object, or, where has is false, nothing.
func set(s *api.Shard, name string, has bool, c api.Chunk) {
	at, found := slices.BinarySearchFunc(s.Items, name, func(i api.Item, name string) int {
		return strings.Compare(i.Name, name)
	})
	switch {
	case has && found:
		s.Items[at].Chunk = c
	case has:
		s.Items = slices.Insert(s.Items, at, api.Item{Name: name, Chunk: c})
	case found:
		s.Items = slices.Delete(s.Items, at, at+1)
	}
}
