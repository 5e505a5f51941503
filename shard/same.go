package shard

import (
	"bytes"
	"slices"

	"mooring/api"
)

// Same tells whether holders are alike.
func Same(a, b api.Holder) bool {
	return a.Fence == b.Fence && sameShard(a.Now, b.Now) && slices.EqualFunc(a.Next, b.Next, sameShard)
}

// sameShard says whether shards are alike.
func sameShard(a, b api.Shard) bool {
	return a.Place == b.Place && a.Since == b.Since && slices.EqualFunc(a.Items, b.Items, sameItem) &&
		slices.Equal(a.Log, b.Log) && slices.EqualFunc(a.Undos, b.Undos, sameUndo)
}

// sameItem says whether items are alike.
func sameItem(a, b api.Item) bool {
	return a.Name == b.Name && sameChunk(a.Chunk, b.Chunk)
}

// sameUndo says whether Undos are alike.
func sameUndo(a, b api.Undo) bool {
	return a.Seq == b.Seq && a.Name == b.Name && a.Has == b.Has && sameChunk(a.Was, b.Was)
}

// sameChunk says whether chunks are alike.
func sameChunk(a, b api.Chunk) bool {
	return a.Size == b.Size && a.Sum == b.Sum && bytes.Equal(a.Data, b.Data)
}
