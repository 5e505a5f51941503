package rebuild

import (
	"cmp"
	"slices"

	"mooring/api"
	"mooring/shard"
)

// refuse is what all that are given shards tell of shards that may not be together.
func refuse(k, m int, l []api.Shard) api.Errno {
	if !isPool(k, m) || len(l) > k+m {
		return api.ErrArg
	}
	if !tellSame(k+m, l) {
		return api.ErrBad
	}
	return api.OK
}

// isPool tells whether a pool may have a K and an M: all of these layer 3 has a code of.
func isPool(k, m int) bool {
	return k >= 1 && m >= 1 && k <= api.MaxShards-m
}

// tellSame tells whether shards, of so many places, tell the same.
func tellSame(places int, l []api.Shard) bool {
	var seen [api.MaxShards]bool
	for _, s := range l {
		if s.Since == 0 || shard.CheckShard(s) != api.OK || s.Place >= places || seen[s.Place] {
			return false
		}
		seen[s.Place] = true
		if !slices.Equal(s.Log, l[0].Log) || !slices.EqualFunc(s.Items, l[0].Items, sameObject) {
			return false
		}
	}
	return true
}

// sameObject tells whether items are of one object, of one size.
func sameObject(a, b api.Item) bool {
	return a.Name == b.Name && a.Chunk.Size == b.Chunk.Size
}

// mayMake tells whether shards of objects may be: just if one that has all but the bytes
// may, and is not the one that is none.
func mayMake(l []api.Object, log []api.Entry, since int) bool {
	s := api.Shard{Since: since, Items: make([]api.Item, len(l)), Log: log}
	for i, o := range l {
		s.Items[i] = api.Item{Name: o.Name, Chunk: api.Chunk{Size: len(o.Data)}}
	}
	return since != 0 && shard.CheckShard(s) == api.OK
}

// The shards of the following tell the same, and i is the place of one of their items.

// soundAt is how many of an object's chunks are sound.
func soundAt(l []api.Shard, i int) int {
	n := 0
	for _, s := range l {
		if isSound(s.Items[i].Chunk) {
			n++
		}
	}
	return n
}

// chunksAt is an object's chunks, each in its shard's place, and which ones there are.
func chunksAt(places int, l []api.Shard, i int) ([]api.Chunk, []bool) {
	chunks, have := make([]api.Chunk, places), make([]bool, places)
	for _, s := range l {
		chunks[s.Place], have[s.Place] = s.Items[i].Chunk, true
	}
	return chunks, have
}

// byPlaces is shards by rising places.
func byPlaces(l []api.Shard) []api.Shard {
	return slices.SortedFunc(slices.Values(l), func(a, b api.Shard) int { return cmp.Compare(a.Place, b.Place) })
}
