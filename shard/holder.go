package shard

import (
	"slices"

	"mooring/api"
)

// Beside an error these calls tell the holder itself, of one that may not be the zero one;
// it is a copy then, too, so that an answer shares no memory with what was handed in.

// Ask fences what is of elder intervals.
func Ask(h api.Holder, since int) (api.Holder, api.Errno) {
	if Check(h) != api.OK {
		return api.Holder{}, api.ErrArg
	}
	h = copied(h)
	if !within(since, 1, api.MaxEpoch) {
		return h, api.ErrArg
	}
	if since < h.Fence {
		return h, api.ErrOld
	}
	h.Fence = since
	return h, api.OK
}

// Stage lets a shard stand by.
func Stage(h api.Holder, s api.Shard) (api.Holder, api.Errno) {
	if Check(h) != api.OK {
		return api.Holder{}, api.ErrArg
	}
	h = copied(h)
	if s.Since == 0 || CheckShard(s) != api.OK {
		return h, api.ErrArg
	}
	if s.Since < h.Fence || s.Since <= h.Now.Since {
		return h, api.ErrOld
	}
	at := seat(h.Next, s.Since)
	switch {
	case at >= 0:
		h.Next[at] = copiedShard(s)
	case len(h.Next) == api.MaxNext:
		return h, api.ErrFull
	default:
		// None of Next is above Fence, and so none above this one: its place is the last.
		h.Next = append(h.Next, copiedShard(s))
	}
	h.Fence = s.Since
	return h, api.OK
}

// Activate lets a shard that stands by be the one.
func Activate(h api.Holder, since int) (api.Holder, api.Errno) {
	out, errno := Ask(h, since)
	if errno != api.OK || out.Now.Since == since {
		return out, errno
	}
	at := seat(out.Next, since)
	if at < 0 {
		// Not what Ask told: that has another Fence.
		return copied(h), api.ErrNone
	}
	out.Now = out.Next[at]
	out.Next = slices.Delete(out.Next, 0, at+1)
	return out, api.OK
}

// Write does an entry.
func Write(h api.Holder, since int, e api.Entry, c api.Chunk) (api.Holder, api.Errno) {
	out, errno := Activate(h, since)
	if errno != api.OK {
		return out, errno
	}
	if !entryMay(e) || !chunkMay(c) {
		return copied(h), api.ErrArg
	}
	switch head := Head(out.Now); {
	case e.Seq > head+1:
		return out, api.ErrWait
	case e.Seq == head+1:
		do(&out.Now, e, c)
	case out.Now.Log[e.Seq-1] != e:
		return out, api.ErrBad
	}
	return out, api.OK
}

// Commit lets entries be taken back no more.
func Commit(h api.Holder, since, head int) (api.Holder, api.Errno) {
	out, errno := Activate(h, since)
	if errno != api.OK {
		return out, errno
	}
	if !within(head, 0, Head(out.Now)) {
		return copied(h), api.ErrArg
	}
	out.Now.Undos = slices.DeleteFunc(out.Now.Undos, func(u api.Undo) bool { return u.Seq <= head })
	return out, api.OK
}

// seat is where the first of some shards of an interval is; below 0: nowhere.
func seat(l []api.Shard, since int) int {
	return slices.IndexFunc(l, func(s api.Shard) bool { return s.Since == since })
}
