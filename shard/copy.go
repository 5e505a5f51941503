package shard

import (
	"bytes"
	"slices"

	"mooring/api"
)

// copied is a holder in memory of its own.
func copied(h api.Holder) api.Holder {
	h.Now = copiedShard(h.Now)
	h.Next = slices.Clone(h.Next)
	for i, s := range h.Next {
		h.Next[i] = copiedShard(s)
	}
	return h
}

// copiedShard is a shard in memory of its own.
func copiedShard(s api.Shard) api.Shard {
	s.Items, s.Log, s.Undos = slices.Clone(s.Items), slices.Clone(s.Log), slices.Clone(s.Undos)
	for i, x := range s.Items {
		s.Items[i].Chunk = copiedChunk(x.Chunk)
	}
	for i, u := range s.Undos {
		s.Undos[i].Was = copiedChunk(u.Was)
	}
	return s
}

// copiedChunk is a chunk in memory of its own.
func copiedChunk(c api.Chunk) api.Chunk {
	c.Data = bytes.Clone(c.Data)
	return c
}
