// Package code: nine shards of some bytes, and the bytes of any six of them.
package code

import (
	"errors"
	"sync"

	"cairn/api"
)

// What a reader gives up with.
var (
	errLength = errors.New("shards whose length is none, or differs")
	errShard  = errors.New("a shard that does not go with the others")
	errFrame  = errors.New("a frame of no bytes")
)

// Split tells the nine shards of some bytes, which are at most MaxData.
func Split(data string) []string {
	six := deal(frame(data))
	out := make([]string, api.All)
	var all sync.WaitGroup
	for j := range out {
		all.Add(1)
		go func() {
			defer all.Done()
			out[j] = six.at(byte(j))
		}()
	}
	all.Wait()
	return out
}

// Join tells the bytes whose shards are those of which have is true; there are nine of each, and at least six that are true. It panics if there are no such bytes.
func Join(shards []string, have []bool) string {
	size := commonSize(shards, have)
	known := firstKnown(shards, have)
	framed := make([]byte, api.Some*size)
	for j := range api.All {
		shard := known.at(byte(j))
		if have[j] && shard != shards[j] {
			panic(errShard)
		}
		if j < api.Some {
			lay(framed, j, shard)
		}
	}
	return unframe(framed)
}

// deal tells the first six shards of a frame.
func deal(framed []byte) points {
	out := points{}
	for j := range api.Some {
		shard := make([]byte, len(framed)/api.Some)
		for k := range shard {
			shard[k] = framed[api.Some*k+j]
		}
		out.add(byte(j), string(shard))
	}
	return out
}

// lay puts the bytes of one of the first six shards where deal takes them from.
func lay(framed []byte, j int, shard string) {
	for k := range len(shard) {
		framed[api.Some*k+j] = shard[k]
	}
}

// commonSize tells the length of the shards that are there, and gives up where it can be no shard's: ahead of all work, which is thus bounded.
func commonSize(shards []string, have []bool) int {
	size := -1
	for j, shard := range shards {
		if !have[j] {
			continue
		}
		if size >= 0 && len(shard) != size {
			panic(errLength)
		}
		size = len(shard)
	}
	if size < 1 || size > frameSize(api.MaxData)/api.Some {
		panic(errLength)
	}
	return size
}

// firstKnown tells the first six of the shards that are there.
func firstKnown(shards []string, have []bool) points {
	out := points{}
	for j, shard := range shards {
		if have[j] && len(out.shards) < api.Some {
			out.add(byte(j), shard)
		}
	}
	return out
}
