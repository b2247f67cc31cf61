package rack

import (
	"errors"
	"strconv"
	"strings"
	"testing"

	"cairn/api"
	"cairn/disk"
)

// newest tells what a rack on a disk gives, or what it gave up with.
func newest(d *disk.Disk) (data string, why error) {
	defer func() {
		if v := recover(); v != nil {
			why = v.(error)
		}
	}()
	return On(d).Newest(), nil
}

// gives holds what a rack on a disk gives against what it should.
func gives(t *testing.T, d *disk.Disk, want string) {
	t.Helper()
	if data, why := newest(d); data != want || why != nil {
		t.Errorf("Newest = %.20q, %v, want %.20q", data, why, want)
	}
}

// laid tells a disk on which the versions up to one were laid, the bytes of each its number.
func laid(t *testing.T, upTo int) *disk.Disk {
	t.Helper()
	d := disk.New()
	for v := 1; v <= upTo; v++ {
		if !On(d).Lay(v, strconv.Itoa(v)) {
			t.Fatalf("Lay of version %d: the disk is not stopped", v)
		}
	}
	return d
}

func TestNewest(t *testing.T) {
	gives(t, disk.New(), "")
	for _, v := range []int{1, 2, 3, 255, 256, 257, 300} {
		gives(t, laid(t, v), strconv.Itoa(v))
	}
}

func TestLayOfMostBytes(t *testing.T) {
	d, data := disk.New(), strings.Repeat("xyz", 2000)
	if !On(d).Lay(500, data) {
		t.Errorf("Lay: the disk is not stopped")
	}
	gives(t, d.Crash(0), data)
}

// A version counts from six devices on; with fewer, it is the one ahead of it.
func TestLayCutOff(t *testing.T) {
	for from := range 9 {
		for n := range 10 {
			d := laid(t, 2)
			next := blocks(3, "3")
			for i := range n {
				d.Write((from+i)%9, 1, next[(from+i)%9])
			}
			gives(t, d, map[bool]string{true: "3", false: "2"}[n >= 6])
		}
	}
}

func TestFirstLayCutOff(t *testing.T) {
	for n := range 10 {
		d := disk.New()
		d.Stop(n)
		if On(d).Lay(1, "1") {
			t.Errorf("Lay in %d steps", n)
		}
		gives(t, d.Crash(0), "")
		gives(t, d.Crash(-1), map[bool]string{true: "1", false: ""}[n >= 6])
	}
}

func TestSettle(t *testing.T) {
	for v := range 6 {
		d := laid(t, v)
		for device := range 3 {
			d.Spoil(device, 0)
			d.Spoil(8-device, 1)
		}
		data := ""
		if v > 0 {
			data = strconv.Itoa(v)
		}
		if !On(d).Settle(v, data) {
			t.Errorf("Settle of version %d: the disk is not stopped", v)
		}
		for device, block := range blocks(v, data) {
			got, whole := d.Read(device, v%2)
			none, empty := d.Read(device, 1-v%2)
			if got != block || !whole || none != "" || !empty {
				t.Errorf("behind Settle of version %d device %d has %q, %v and %q, %v", v, device, got, whole, none, empty)
			}
		}
		if left := d.Crash(0); left.Bytes() != d.Bytes() || len(left.Harmed()) > 0 {
			t.Errorf("behind Settle of version %d a crash leaves %d bytes of %d", v, left.Bytes(), d.Bytes())
		}
	}
}

// What lies there as it should is not written again.
func TestSettleWritesNoMoreThanItMust(t *testing.T) {
	d := laid(t, 4)
	On(d).Settle(4, "4")
	steps := d.Steps()
	On(d).Settle(4, "4")
	if n := d.Steps() - steps; n > 2 {
		t.Errorf("Settle of what is settled asked for %d steps", n)
	}
}

func TestNewestGivesUp(t *testing.T) {
	harmed := func(slot, n int) *disk.Disk {
		d := laid(t, 4)
		for device := range n {
			d.Spoil(2*device%9, slot)
		}
		return d
	}
	short := laid(t, 4)
	short.Write(5, 1, "x")
	other := laid(t, 4)
	other.Write(5, 0, label(4)+"x")
	for name, c := range map[string]struct {
		d   *disk.Disk
		why error
	}{
		"four blocks of the newest harmed": {harmed(0, 4), errHarm},
		"four blocks of the other harmed":  {harmed(1, 4), errHarm},
		"all blocks of a slot harmed":      {harmed(1, 9), errHarm},
		"a block of one byte":              {short, errBlock},
	} {
		if data, why := newest(c.d); !errors.Is(why, c.why) {
			t.Errorf("%s: Newest = %q, %v, want %v", name, data, why, c.why)
		}
	}
	if data, why := newest(other); why == nil {
		t.Errorf("a shard that is another's: Newest = %q", data)
	}
	gives(t, harmed(0, api.MaxHarmed), "4")
	gives(t, harmed(1, api.MaxHarmed), "4")
}
