package shelf

import (
	"errors"

	"cairn/api"
)

// errPack is what a reader gives up with.
var errPack = errors.New("bytes that are no shelf's")

// dead stands in a pack where the number of a live key's bytes stands: it is more than a blob can have.
const dead = api.MaxBlob + 1

// Pack tells all that a shelf has, by its keys rising, in fewer bytes than it uses: a key with its length ahead of it, then its blob likewise, or that it is dead.
func (s *Shelf) Pack() string {
	var out []byte
	for _, e := range s.entries {
		out = append(out, byte(len(e.key)))
		out = append(out, e.key...)
		if e.dead {
			out = append(out, dead)
			continue
		}
		out = append(out, byte(len(e.blob)))
		out = append(out, e.blob...)
	}
	return string(out)
}

// Unpack tells the shelf that was packed. It panics if there is none.
func Unpack(data string) Shelf {
	var out Shelf
	left := reader{data}
	for left.data != "" {
		key := left.take(left.number())
		size := left.number()
		if size == dead {
			out.restore(key, "")
			out.Delete(key)
			continue
		}
		out.restore(key, left.take(size))
	}
	return out
}

// restore takes a blob out of a pack, and gives up if it can be none that was put.
func (s *Shelf) restore(key string, blob string) {
	if s.MayPut(key, blob) != api.OK {
		panic(errPack)
	}
	s.Put(key, blob)
}

// reader has the bytes that are not read yet.
type reader struct {
	data string
}

// take reads so many bytes, and gives up if there are fewer.
func (r *reader) take(n int) string {
	if len(r.data) < n {
		panic(errPack)
	}
	out := r.data[:n]
	r.data = r.data[n:]
	return out
}

// number reads a byte.
func (r *reader) number() int { return int(r.take(1)[0]) }
