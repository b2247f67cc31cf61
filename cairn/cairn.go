// Package cairn: blobs on nine devices: see DOC.md.
package cairn

import (
	"sync"

	"cairn/api"
	"cairn/code"
	"cairn/disk"
	"cairn/field"
	"cairn/rack"
	"cairn/shelf"
)

// Store has blobs, and the devices on which they lie.
type Store struct {
	lock    sync.Mutex
	devices rack.Rack
	blobs   shelf.Shelf
}

// Mul multiplies (P3).
func Mul(a byte, b byte) byte { return field.Mul(a, b) }

// Inv tells an inverse (P3).
func Inv(a byte) (byte, api.Errno) {
	if a == 0 {
		return 0, api.ErrArg
	}
	return field.Inv(a), api.OK
}

// Shards makes nine shards (P4).
func Shards(data string) ([]string, api.Errno) {
	if len(data) > api.MaxData {
		return nil, api.ErrLarge
	}
	return code.Split(data), api.OK
}

// Whole makes bytes of shards (P5).
func Whole(shards []string, have []bool) (string, api.Errno) {
	if len(shards) != api.All || len(have) != api.All {
		return "", api.ErrArg
	}
	if count(have) < api.Some {
		return "", api.ErrFew
	}
	return join(shards, have)
}

// count tells how many are true.
func count(have []bool) int {
	n := 0
	for _, h := range have {
		if h {
			n++
		}
	}
	return n
}

// join catches what the reader of shards gives up with.
func join(shards []string, have []bool) (data string, err api.Errno) {
	defer func() {
		if recover() != nil {
			data, err = "", api.ErrCode
		}
	}()
	return code.Join(shards, have), api.OK
}

// Open makes a store of what is on a disk (P6, P10). What it found is settled ahead of the answer: else a later harm could take what was told, and the rest of a call that was cut off could get in the way of the next one.
func Open(d *disk.Disk) (*Store, api.Errno) {
	if d.Stopped() {
		return nil, api.ErrDown
	}
	devices := rack.On(d)
	blobs, err := read(devices)
	if err != api.OK {
		return nil, err
	}
	s := &Store{devices: devices, blobs: blobs}
	if err := s.settle(); err != api.OK {
		return nil, err
	}
	return s, api.OK
}

// read catches what the readers of devices give up with: ErrCode, if the disk is not within bounds, or somebody else wrote on it.
func read(devices rack.Rack) (blobs shelf.Shelf, err api.Errno) {
	defer func() {
		if recover() != nil {
			blobs, err = shelf.Shelf{}, api.ErrCode
		}
	}()
	return shelf.Unpack(devices.Newest()), api.OK
}

// settle lets all that the store has, and nothing else, lie on the devices, whole and safe.
func (s *Store) settle() api.Errno {
	if !s.devices.Settle(s.blobs.Changes(), s.blobs.Pack()) {
		return api.ErrDown
	}
	return api.OK
}

// turn lets the store have what was changed, if it can be made safe.
func (s *Store) turn(changed shelf.Shelf) api.Errno {
	if !s.devices.Lay(changed.Changes(), changed.Pack()) {
		return api.ErrDown
	}
	s.blobs = changed
	return api.OK
}

// Put takes a blob (P6).
func (s *Store) Put(key string, blob string) api.Errno {
	s.lock.Lock()
	defer s.lock.Unlock()
	if err := s.blobs.MayPut(key, blob); err != api.OK {
		return err
	}
	changed := s.blobs.Clone()
	changed.Put(key, blob)
	return s.turn(changed)
}

// Get tells a blob (P7).
func (s *Store) Get(key string) (string, api.Errno) {
	s.lock.Lock()
	defer s.lock.Unlock()
	return s.blobs.Get(key)
}

// GetAll tells blobs (P7).
func (s *Store) GetAll(keys []string) []api.Answer {
	s.lock.Lock()
	defer s.lock.Unlock()
	out := make([]api.Answer, len(keys))
	var all sync.WaitGroup
	for i, key := range keys {
		all.Add(1)
		go func() {
			defer all.Done()
			out[i].Blob, out[i].Err = s.blobs.Get(key)
		}()
	}
	all.Wait()
	return out
}

// Delete lets a key be dead (P7).
func (s *Store) Delete(key string) api.Errno {
	s.lock.Lock()
	defer s.lock.Unlock()
	if _, err := s.blobs.Get(key); err != api.OK {
		return err
	}
	changed := s.blobs.Clone()
	changed.Delete(key)
	return s.turn(changed)
}

// Keys tells live keys (P8).
func (s *Store) Keys(after string, n int) []string {
	s.lock.Lock()
	defer s.lock.Unlock()
	return s.blobs.Keys(after, n)
}

// Largest tells the keys of the largest blobs (P8).
func (s *Store) Largest(n int) []string {
	s.lock.Lock()
	defer s.lock.Unlock()
	return s.blobs.Largest(n)
}

// Stats tells how it is (P8).
func (s *Store) Stats() api.Stats {
	s.lock.Lock()
	defer s.lock.Unlock()
	return s.blobs.Stats()
}

// Seal packs all (P9): what is settled lies there once, in fewer bytes than the bound lets it.
func (s *Store) Seal() api.Errno {
	s.lock.Lock()
	defer s.lock.Unlock()
	return s.settle()
}

// Scrub makes all whole (P9): to settle is to look at each block that is ever written, and to write it again if it is not whole.
func (s *Store) Scrub() api.Errno {
	s.lock.Lock()
	defer s.lock.Unlock()
	return s.settle()
}
