// Package rack: versions of some bytes as shards on nine devices, of which the newest outlives a crash and the harm of three.
package rack

import (
	"cairn/api"
	"cairn/code"
	"cairn/disk"
)

// slots is how many blocks of each device are used. Versions take them by turns, so that one is whole while the next is laid.
const slots = 2

// Rack has the versions that lie on a disk. A version is a number above 0 and below 65536, and each is one above the one ahead of it; version 0 stands for no bytes, of which nothing lies on the disk.
type Rack struct {
	disk *disk.Disk
}

// On tells the rack on a disk.
func On(d *disk.Disk) Rack { return Rack{disk: d} }

// Newest tells the bytes of the greatest version of which there are shards enough. It panics if there are blocks that it can't make out, or if so many are harmed that a newer version may be lost.
func (r Rack) Newest() string {
	newest, data := 0, ""
	for n := range slots {
		s := r.read(n)
		if v := s.version(); v > newest {
			newest, data = v, s.data(v)
		}
	}
	return data
}

// Lay makes a version safe, and touches none of the one ahead of it; false: the disk is stopped.
func (r Rack) Lay(version int, data string) bool {
	return r.write(version%slots, blocks(version, data))
}

// Settle makes a version whole and safe, and then takes all else off the disk; false: the disk is stopped. The one must be safe ahead of the other: what a crash leaves of a version may lie on six devices alone, and if some of these are harmed next, the version ahead of it is needed.
func (r Rack) Settle(version int, data string) bool {
	return r.Lay(version, data) && r.write(1-version%slots, make([]string, api.All))
}

// write lets the blocks of a slot be these, and makes them safe. It writes those alone that are others, or not whole.
func (r Rack) write(n int, blocks []string) bool {
	for device, block := range blocks {
		old, whole := r.disk.Read(device, n)
		if whole && old == block {
			continue
		}
		if !r.disk.Write(device, n, block) {
			return false
		}
	}
	return r.disk.Sync()
}

// blocks tells what lies of a version, for each device.
func blocks(version int, data string) []string {
	out := make([]string, api.All)
	if version == 0 {
		return out
	}
	for device, shard := range code.Split(data) {
		out[device] = label(version) + shard
	}
	return out
}
