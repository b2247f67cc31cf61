package rack

import (
	"errors"

	"cairn/api"
	"cairn/code"
)

// What a reader gives up with.
var (
	errBlock = errors.New("a block without a version")
	errHarm  = errors.New("more harm than the shards make good")
)

// head is how many bytes of a block tell its version.
const head = 2

// slot is what can be read of one block of each device: versions (0: none) and shards.
type slot struct {
	versions [api.All]int
	shards   [api.All]string
}

// read tells what is in a slot. It gives up where more blocks are harmed than may be, for of a version that was safe on all devices too few could be left, and the one ahead of it would be taken for the newest.
func (r Rack) read(n int) slot {
	var out slot
	harmed := 0
	for device := range api.All {
		block, whole := r.disk.Read(device, n)
		if !whole {
			harmed++
		}
		out.versions[device], out.shards[device] = unlabel(block)
	}
	if harmed > api.MaxHarmed {
		panic(errHarm)
	}
	return out
}

// version tells the version of which a slot has shards enough; 0: there is none.
func (s slot) version() int {
	for _, v := range s.versions {
		_, n := s.of(v)
		if v > 0 && n >= api.Some {
			return v
		}
	}
	return 0
}

// of tells which blocks are of a version, and how many.
func (s slot) of(version int) ([]bool, int) {
	have, n := make([]bool, api.All), 0
	for device, v := range s.versions {
		if v == version {
			have[device] = true
			n++
		}
	}
	return have, n
}

// data tells the bytes of a version of which there are shards enough.
func (s slot) data(version int) string {
	have, _ := s.of(version)
	return code.Join(s.shards[:], have)
}

// label tells the first bytes of a block of a version.
func label(version int) string {
	return string([]byte{byte(version), byte(version >> 8)})
}

// unlabel tells the version of a block, and the shard behind it.
func unlabel(block string) (int, string) {
	if block == "" {
		return 0, ""
	}
	if len(block) < head {
		panic(errBlock)
	}
	return int(block[0]) | int(block[1])<<8, block[head:]
}
