// Package shelf: keys that are live or dead, and the blobs of those that are live.
package shelf

import (
	"slices"
	"strings"

	"cairn/api"
)

// entry is a key that is live, with its blob, or dead, without one.
type entry struct {
	key, blob string
	dead      bool
}

// Shelf has entries, their keys rising. The zero Shelf has none.
type Shelf struct {
	entries []entry
}

// Get tells the blob of a key, or why it has none.
func (s *Shelf) Get(key string) (string, api.Errno) {
	if !isKey(key) {
		return "", api.ErrKey
	}
	i, found := s.place(key)
	if !found {
		return "", api.ErrNone
	}
	if s.entries[i].dead {
		return "", api.ErrDead
	}
	return s.entries[i].blob, api.OK
}

// MayPut tells whether a blob can be put, or why it can't.
func (s *Shelf) MayPut(key string, blob string) api.Errno {
	_, err := s.Get(key)
	switch {
	case err == api.ErrKey:
		return api.ErrKey
	case len(blob) > api.MaxBlob:
		return api.ErrLarge
	case err == api.OK:
		return api.ErrExists
	case err == api.ErrDead:
		return api.ErrDead
	case s.Stats().Used+api.Each+len(blob) > api.MaxUsed:
		return api.ErrFull
	}
	return api.OK
}

// Put takes a blob that MayPut lets in. It keeps copies, for the strings may be pieces of great ones.
func (s *Shelf) Put(key string, blob string) {
	i, _ := s.place(key)
	s.entries = slices.Insert(s.entries, i, entry{key: strings.Clone(key), blob: strings.Clone(blob)})
}

// Delete lets a live key be dead.
func (s *Shelf) Delete(key string) {
	i, _ := s.place(key)
	s.entries[i].blob, s.entries[i].dead = "", true
}

// Keys tells the live keys that are greater than one, rising, at most n.
func (s *Shelf) Keys(after string, n int) []string {
	from, found := s.place(after)
	if found {
		from++
	}
	var out []string
	for _, e := range s.entries[from:] {
		if len(out) >= n {
			break
		}
		if !e.dead {
			out = append(out, e.key)
		}
	}
	return out
}

// Stats tells how many keys there are, and what they use.
func (s *Shelf) Stats() api.Stats {
	var out api.Stats
	for _, e := range s.entries {
		if e.dead {
			out.Dead++
		} else {
			out.Live++
		}
		out.Used += api.Each + len(e.blob)
	}
	return out
}

// Clone tells a shelf that has the same, and goes its own way.
func (s *Shelf) Clone() Shelf {
	return Shelf{entries: slices.Clone(s.entries)}
}

// Changes tells how many puts and deletes have led here from a shelf without keys: no two shelves on the way have one number.
func (s *Shelf) Changes() int {
	now := s.Stats()
	return now.Live + 2*now.Dead
}

// place tells where a key stands, or would stand, and whether it is there.
func (s *Shelf) place(key string) (int, bool) {
	return slices.BinarySearchFunc(s.entries, key, func(e entry, key string) int {
		return strings.Compare(e.key, key)
	})
}
