package shard

import (
	"mooring/api"
	"mooring/name"
)

// The greatest numbers that an entry may have: lastKey as Client and Seq of its Key,
// lastCode as its Code.
const (
	lastKey  = 1<<31 - 1
	lastCode = 255
)

// Check tells why a holder may not be.
func Check(h api.Holder) api.Errno {
	if !within(h.Fence, 0, api.MaxEpoch) || CheckShard(h.Now) != api.OK || h.Now.Since > h.Fence || !nextMay(h) {
		return api.ErrArg
	}
	return api.OK
}

// CheckShard tells why a shard may not be.
func CheckShard(s api.Shard) api.Errno {
	if s.Since == 0 && !sameShard(s, api.Shard{}) {
		return api.ErrArg
	}
	if !within(s.Since, 0, api.MaxEpoch) || !within(s.Place, 0, api.MaxShards-1) ||
		!itemsMay(s.Items) || !logMay(s.Log) || !undosMay(s.Undos, s.Log) {
		return api.ErrArg
	}
	return api.OK
}

// nextMay says whether a holder may have its Next, beside its Fence and its Now.
func nextMay(h api.Holder) bool {
	if len(h.Next) > api.MaxNext {
		return false
	}
	ahead := h.Now.Since
	for _, s := range h.Next {
		if !within(s.Since, ahead+1, h.Fence) || CheckShard(s) != api.OK {
			return false
		}
		ahead = s.Since
	}
	return true
}

// itemsMay says whether a shard may have these items.
func itemsMay(l []api.Item) bool {
	for i, x := range l {
		if name.Check(x.Name) != api.OK || !chunkMay(x.Chunk) || i > 0 && x.Name <= l[i-1].Name {
			return false
		}
	}
	return true
}

// logMay says whether a shard may have these entries.
func logMay(l []api.Entry) bool {
	for i, e := range l {
		if e.Seq != i+1 || !entryMay(e) {
			return false
		}
	}
	return true
}

// undosMay says whether a shard may have these Undos, beside its Log.
func undosMay(l []api.Undo, log []api.Entry) bool {
	if len(l) > len(log) {
		return false
	}
	for i, e := range log[len(log)-len(l):] {
		u := l[i]
		if u.Seq != e.Seq || u.Name != e.Name || !chunkMay(u.Was) || !u.Has && !sameChunk(u.Was, api.Chunk{}) {
			return false
		}
	}
	return true
}

// entryMay says whether an entry may be.
func entryMay(e api.Entry) bool {
	if e.Code != api.OK && e.Gone || (e.Code != api.OK || e.Gone) && e.Size != 0 {
		return false
	}
	return within(e.Seq, 1, api.MaxLog) && within(e.Key.Client, 0, lastKey) && within(e.Key.Seq, 0, lastKey) &&
		name.Check(e.Name) == api.OK && within(e.Size, 0, api.MaxObject) && within(int(e.Code), 0, lastCode)
}

// chunkMay says whether a chunk may be.
func chunkMay(c api.Chunk) bool {
	return within(c.Size, 0, api.MaxObject) && len(c.Data) <= api.MaxObject
}

// within says whether n is from least to most.
func within(n, least, most int) bool { return least <= n && n <= most }
