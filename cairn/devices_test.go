package cairn_test

import (
	"maps"
	"math"
	"math/rand"
	"slices"
	"strconv"
	"strings"
	"sync"
	"testing"

	"cairn/api"
	"cairn/cairn"
	"cairn/disk"
)

// call is a command to a store.
type call struct {
	what, key, blob string
}

func (c call) on(s *cairn.Store) api.Errno {
	switch c.what {
	case "Put":
		return s.Put(c.key, c.blob)
	case "Delete":
		return s.Delete(c.key)
	case "Seal":
		return s.Seal()
	}
	return s.Scrub()
}

func (c call) onPlain(p plain) api.Errno {
	switch c.what {
	case "Put":
		return p.put(c.key, c.blob)
	case "Delete":
		return p.del(c.key)
	}
	return api.OK
}

func newPlain() plain { return plain{map[string]string{}, map[string]bool{}} }

// behind tells what a plain store becomes by a call.
func (p plain) behind(c call) plain {
	out := plain{maps.Clone(p.blobs), maps.Clone(p.dead)}
	c.onPlain(out)
	return out
}

// told tells as one text what a store answers to all questions about some keys.
func told(s *cairn.Store, keys []string) string {
	now := s.Stats()
	out := strings.Join(s.Keys("", math.MaxInt), " ") + ", " + strings.Join(s.Largest(math.MaxInt), " ") + ", " + strconv.Itoa(now.Live) + " " + strconv.Itoa(now.Dead) + " " + strconv.Itoa(now.Used)
	for _, key := range keys {
		blob, err := s.Get(key)
		out += ", " + key + " " + strconv.Quote(blob) + " " + strconv.Itoa(int(err))
	}
	return out
}

// told tells the same of a plain store.
func (p plain) told(keys []string) string {
	out := strings.Join(p.keys(), " ") + ", " + strings.Join(p.largest(), " ") + ", " + strconv.Itoa(len(p.blobs)) + " " + strconv.Itoa(len(p.dead)) + " " + strconv.Itoa(p.used())
	for _, key := range keys {
		blob, err := p.get(key)
		out += ", " + key + " " + strconv.Quote(blob) + " " + strconv.Itoa(int(err))
	}
	return out
}

// threes tells all sets of three devices.
func threes() [][]int {
	var out [][]int
	for a := range 9 {
		for b := range a {
			for c := range b {
				out = append(out, []int{c, b, a})
			}
		}
	}
	return out
}

// harmed lets all blocks of some devices not be whole that are among the first, and tells the disk.
func harmed(d *disk.Disk, devices []int) *disk.Disk {
	for _, device := range devices {
		for block := range 32 {
			d.Spoil(device, block)
		}
	}
	return d
}

// harmedInPart lets some blocks of some devices not be whole: others for each number.
func harmedInPart(d *disk.Disk, devices []int, number int) *disk.Disk {
	for i, device := range devices {
		for block := range 32 {
			if number>>((3*block+i)%10)&1 == 1 {
				d.Spoil(device, block)
			}
		}
	}
	return d
}

// someKeys are those of someCalls, and others.
var someKeys = []string{"a", "b", "c", "d", "e", "new", "later", "none"}

// someCalls puts and deletes.
func someCalls() []call {
	return []call{{"Put", "a", "one"}, {"Put", "b", "three"}, {"Put", "c", ""}, {"Delete", "a", ""}, {"Put", "d", sized(200)}, {"Put", "e", sized(31)}, {"Delete", "d", ""}}
}

// someDisk tells a disk on which a store did someCalls, that store, and what it should be like.
func someDisk(t *testing.T) (*disk.Disk, *cairn.Store, plain) {
	t.Helper()
	d, p := disk.New(), newPlain()
	s := mustOpen(t, d)
	for _, c := range someCalls() {
		must(t, c, s)
		c.onPlain(p)
	}
	return d, s, p
}

// must holds that a call is answered OK.
func must(t *testing.T, c call, s *cairn.Store) {
	t.Helper()
	if err := c.on(s); err != api.OK {
		t.Fatalf("P11: %s(%.12q, %d bytes) = %d on a disk that is not stopped", c.what, c.key, len(c.blob), err)
	}
}

// opens opens a disk, and holds what the store tells against what it should be.
func opens(t *testing.T, d *disk.Disk, p plain, where string) *cairn.Store {
	t.Helper()
	s := mustOpen(t, d)
	if got, want := told(s, someKeys), p.told(someKeys); got != want {
		t.Fatalf("P10: %s: %s, want %s", where, got, want)
	}
	return s
}

func TestP10OpenAgain(t *testing.T) {
	d, p := disk.New(), newPlain()
	opens(t, d, p, "a new disk")
	opens(t, d, p, "a new disk, again")
	for i, c := range someCalls() {
		must(t, c, opens(t, d, p, "ahead of call "+strconv.Itoa(i)))
		c.onPlain(p)
		opens(t, d.Crash(0), p, "behind a crash")
		opens(t, d.Crash(-1), p, "behind a crash that keeps all")
	}
	for i, c := range []call{{"Seal", "", ""}, {"Scrub", "", ""}, {"Seal", "", ""}, {"Put", "new", "x"}} {
		must(t, c, opens(t, d, p, "behind "+strconv.Itoa(i)+" more calls"))
		c.onPlain(p)
		opens(t, d.Crash(0), p, "behind a crash")
	}
	put(t, opens(t, d, p, "at the end"), "a", "again", api.ErrDead)
}

// As many calls as one disk can see: what is told of the last one is not taken for that of another.
func TestP10OpenBehindEachCall(t *testing.T) {
	d, p := disk.New(), newPlain()
	for i := range 250 {
		for _, c := range []call{{"Put", "k" + strconv.Itoa(i), ""}, {"Delete", "k" + strconv.Itoa(i), ""}} {
			s := mustOpen(t, harmed(d.Crash(0), []int{i % 9, 3, 5}))
			if got, want := told(s, []string{c.key}), p.told([]string{c.key}); got != want {
				t.Fatalf("P10: ahead of %s(%q): %s, want %s", c.what, c.key, got, want)
			}
			must(t, c, mustOpen(t, d))
			c.onPlain(p)
		}
	}
	put(t, mustOpen(t, d), "more", "", api.ErrFull)
}

// All that 6000 lets in is there again: of large blobs, of keys, and of keys that died.
func TestP10OpenFull(t *testing.T) {
	for _, size := range []int{0, 1, 60, 200} {
		for _, dying := range []int{1, 2, 1000} {
			d, p := disk.New(), newPlain()
			s := mustOpen(t, d)
			fill(s, p, size, dying)
			x := mustOpen(t, harmed(d.Crash(0), []int{1, 4, 7}))
			if told(x, nil) != p.told(nil) || told(x, p.keys()) != p.told(p.keys()) {
				t.Errorf("P10: full of blobs of %d: another store behind Open", size)
			}
			put(t, x, "more", sized(size), api.ErrFull)
		}
	}
}

// fill puts blobs of one size, of which each so often-th dies, till no more go in.
func fill(s *cairn.Store, p plain, size, dying int) {
	for i := 1; ; i++ {
		c := call{"Put", "fill" + strconv.Itoa(i), sized(size)}
		if c.onPlain(p) != api.OK {
			return
		}
		c.on(s)
		if i%dying == 0 {
			s.Delete(c.key)
			p.del(c.key)
		}
	}
}

func TestP10OpenOfStoppedDisk(t *testing.T) {
	down := func(where string, d *disk.Disk) {
		t.Helper()
		if s, err := cairn.Open(d); s != nil || err != api.ErrDown {
			t.Errorf("P10: Open of %s: %v, %d", where, s != nil, err)
		}
	}
	d := disk.New()
	d.Stop(0)
	down("a new disk that has no step left", d)
	down("the same again", d)
	d, _, p := someDisk(t)
	d.Stop(0)
	down("a disk that has no step left", d)
	down("the same, with devices harmed", harmed(d, []int{0, 4, 8}))
	opens(t, d.Crash(0), p, "what a crash leaves of it")
	down("the same, with more of them harmed", harmed(d, []int{1, 2, 3}))
	d, s, p := someDisk(t)
	d.Stop(3)
	if err := s.Put("new", "x"); err != api.ErrDown {
		t.Errorf("P11: Put in three steps: %d", err)
	}
	down("a disk that refused a step", d)
	opens(t, d.Crash(0), p, "what a crash leaves of it")
	d = disk.New()
	d.Write(0, 5000, "")
	d.Stop(1)
	d.Sync()
	d.Sync()
	down("a disk that refused a Sync", d)
}

func TestP10TwoDisks(t *testing.T) {
	one, s, p := someDisk(t)
	two, q := disk.New(), newPlain()
	x := mustOpen(t, two)
	for i := range 20 {
		a, b := call{"Put", "n" + strconv.Itoa(i), sized(i)}, call{"Put", "n" + strconv.Itoa(i), sized(200 - i)}
		must(t, a, s)
		must(t, b, x)
		a.onPlain(p)
		b.onPlain(q)
		must(t, call{what: "Seal"}, x)
		must(t, call{what: "Scrub"}, s)
	}
	opens(t, one, p, "the first disk")
	opens(t, two, q, "the second disk")
	two.Stop(0)
	if err := x.Put("more", ""); err != api.ErrDown {
		t.Errorf("P11: Put on the disk that is stopped: %d", err)
	}
	put(t, s, "more", "", api.OK)
	opens(t, one, p.behind(call{"Put", "more", ""}), "the first disk, the second stopped")
	opens(t, two.Crash(-1), q, "what a crash leaves of the second disk")
}

// Stores on different disks may be asked at once.
func TestP10ManyDisksAtOnce(t *testing.T) {
	var all sync.WaitGroup
	for range 8 {
		all.Add(1)
		go func() {
			defer all.Done()
			d, s, p := disk.New(), (*cairn.Store)(nil), newPlain()
			for _, c := range someCalls() {
				s, _ = cairn.Open(d)
				c.on(s)
				c.onPlain(p)
			}
			if got, want := told(s, someKeys), p.told(someKeys); got != want {
				t.Errorf("P2: beside other stores: %s, want %s", got, want)
			}
		}()
	}
	all.Wait()
}

// Nothing is promised of these disks, but that no call panics.
func TestP1DisksThatAreNotWithinBounds(t *testing.T) {
	use := func(d *disk.Disk) {
		s, err := cairn.Open(d)
		if (s == nil) != (err != api.OK) {
			t.Errorf("P1: Open = %v, %d", s != nil, err)
		}
		if s == nil {
			return
		}
		told(s, someKeys)
		s.Put("new", "x")
		s.Delete("b")
		s.Seal()
		s.Scrub()
		told(s, someKeys)
	}
	for number := range 1 << 9 {
		var devices []int
		for device := range 9 {
			if number>>device&1 == 1 {
				devices = append(devices, device)
			}
		}
		d, _, _ := someDisk(t)
		use(harmed(d.Crash(0), devices))
		use(harmedInPart(d.Crash(0), devices, number))
		for i, device := range devices {
			d.Write(device, number&1, []string{"x", "\x01", "\x07\x00", "\x08\x00ab", "\x09\x00" + sized(number%50), sized(2048), ""}[(number/2+i)%7])
		}
		use(d)
	}
	same := disk.New()
	for device := range 9 {
		same.Write(device, 1, "\x01\x00\x01")
	}
	use(same)
}

// Behind the harm of four devices it can't be known what the newest was: that is told, not a store that has less.
func TestOpenBehindTooMuchHarm(t *testing.T) {
	d, _, p := someDisk(t)
	for _, devices := range [][]int{{0, 1, 2, 3}, {2, 4, 6, 8}, {0, 1, 2, 3, 4, 5, 6, 7, 8}} {
		if s, err := cairn.Open(harmed(d.Crash(0), devices)); s != nil || err != api.ErrCode {
			t.Errorf("Open, devices %v harmed: %v, %d", devices, s != nil, err)
		}
	}
	opens(t, harmed(d.Crash(0), []int{0, 1, 2}), p, "three devices harmed")
}

// Any three devices are harmed, in all blocks or some; then, behind a Scrub, any other three.
func TestP9P10HarmOfAnyThree(t *testing.T) {
	t.Parallel()
	for i, first := range threes() {
		d, s, p := someDisk(t)
		if i%2 == 0 {
			must(t, call{what: "Seal"}, s)
		}
		opens(t, harmed(d.Crash(0), first), p, "three devices harmed")
		for number := range 9 {
			opens(t, harmedInPart(d.Crash(0), first, 37*i+number*number), p, "three devices harmed in part")
		}
		harmed(d, first)
		if i%3 == 0 {
			s = opens(t, d, p, "three devices harmed, opened again")
		}
		must(t, call{what: "Scrub"}, s)
		whole(t, d)
		for _, other := range threes() {
			opens(t, harmed(d.Crash(0), other), p, "devices harmed, scrubbed, others harmed")
		}
	}
}

// whole holds that no block of a disk is not whole, nor of what a crash leaves.
func whole(t *testing.T, d *disk.Disk) {
	t.Helper()
	for _, x := range []*disk.Disk{d, d.Crash(0), d.Crash(-1), d.Crash(0x2aaaaaaaaaaaaaaa)} {
		if got := x.Harmed(); len(got) > 0 {
			t.Fatalf("P9: devices %v harmed behind a Scrub", got)
		}
	}
}

// Harm, calls and scrubs by turns: the store stays open, and its answers as they should be.
func TestP9HarmBetweenScrubs(t *testing.T) {
	d, s, p := someDisk(t)
	for i, three := range threes() {
		for k := range 3 {
			harmedInPart(d, three, i*29+k*7)
			c := call{"Put", "n" + strconv.Itoa(3*i+k), sized(k)}
			if c.onPlain(p) != api.OK {
				c = call{what: "Seal"}
			}
			must(t, c, s)
			harmed(d, three[:k])
			opens(t, d.Crash(0), p, "harmed between scrubs")
		}
		must(t, call{what: "Scrub"}, s)
		whole(t, d)
	}
}

func TestP9ScrubOfNewDisk(t *testing.T) {
	d := disk.New()
	s := mustOpen(t, d)
	must(t, call{what: "Scrub"}, s)
	must(t, call{what: "Seal"}, s)
	whole(t, d)
	opens(t, d, newPlain(), "a new disk that was scrubbed")
}

// sealed seals a store and holds the bytes of its disk against their bound.
func sealed(t *testing.T, d *disk.Disk, s *cairn.Store, p plain) {
	t.Helper()
	before := told(s, someKeys)
	must(t, call{what: "Seal"}, s)
	if n, used := d.Bytes(), p.used(); 2*n > 3*used+3600 {
		t.Errorf("P9: %d bytes behind a Seal, of a store that uses %d", n, used)
	}
	if got, want := told(s, someKeys), p.told(someKeys); got != want || before != want {
		t.Errorf("P9: behind a Seal: %s, ahead of it: %s, want %s", got, before, want)
	}
	opens(t, d.Crash(0), p, "behind a Seal and a crash")
}

func TestP9SealBytes(t *testing.T) {
	t.Parallel()
	d, p := disk.New(), newPlain()
	s := mustOpen(t, d)
	sealed(t, d, s, p)
	for _, c := range someCalls() {
		must(t, c, s)
		c.onPlain(p)
		sealed(t, d, s, p)
		sealed(t, d, s, p)
	}
	must(t, call{"Put", "new", "x"}, s)
	call{"Put", "new", "x"}.onPlain(p)
	sealed(t, harmed(d, []int{0, 1, 2}), s, p)
	for _, size := range []int{0, 1, 7, 60, 199, 200} {
		for _, dying := range []int{1, 2, 3, 1000} {
			d, p := disk.New(), newPlain()
			s := mustOpen(t, d)
			fill(s, p, size, dying)
			sealed(t, harmedInPart(d, []int{2, 5, 8}, size), s, p)
		}
	}
}

// Blobs that died leave no bytes behind.
func TestP9SealBehindDeletes(t *testing.T) {
	d, p := disk.New(), newPlain()
	s := mustOpen(t, d)
	fill(s, p, 200, 1000)
	for _, key := range p.keys() {
		c := call{"Delete", key, ""}
		must(t, c, s)
		c.onPlain(p)
		sealed(t, d, s, p)
	}
	if len(p.blobs) > 0 {
		t.Errorf("blobs are left: %q", p.keys())
	}
}

// What a call that was cut off has left does not count behind a Seal, either.
func TestP9SealBehindCrash(t *testing.T) {
	for n := range 25 {
		d, p := disk.New(), newPlain()
		s := mustOpen(t, d)
		fill(s, p, 200, 1000)
		d.Stop(n)
		s.Delete("fill1")
		s.Delete("fill2")
		for _, keep := range []int{0, -1, 0x1555555555555555} {
			left := harmed(d.Crash(keep), []int{0, 3, 6})
			x := mustOpen(t, left)
			must(t, call{what: "Seal"}, x)
			if bytes, used := left.Bytes(), x.Stats().Used; 2*bytes > 3*used+3600 {
				t.Errorf("P9: %d bytes behind a crash and a Seal, of a store that uses %d", bytes, used)
			}
		}
	}
}

func TestP9Example(t *testing.T) {
	d := disk.New()
	s := mustOpen(t, d)
	put(t, s, "a", "one", api.OK)
	put(t, s, "b", "three", api.OK)
	put(t, s, "a", "x", api.ErrExists)
	list(t, "Largest", s.Largest(1), "b")
	del(t, s, "a", api.OK)
	get(t, s, "a", "", api.ErrDead)
	del(t, s, "a", api.ErrDead)
	put(t, s, "a", "y", api.ErrDead)
	stats(t, s, 1, 1, 53)
	must(t, call{what: "Seal"}, s)
	if d.Bytes() > 1879 {
		t.Errorf("P9: %d bytes behind the Seal", d.Bytes())
	}
	s = mustOpen(t, harmed(d, []int{2, 5, 8}))
	get(t, s, "b", "three", api.OK)
	must(t, call{what: "Scrub"}, s)
	whole(t, d)
}

// lastCalls are those that are cut off.
func lastCalls() []call {
	return []call{{"Put", "new", sized(40)}, {"Delete", "e", ""}, {what: "Seal"}, {what: "Scrub"}}
}

// cutOff lets a disk stop behind n steps of a call, and tells that disk, the store, and what it was like ahead of the call; nil: the call had all its steps. Three devices are harmed ahead of it, so that each of the calls has something to write.
func cutOff(t *testing.T, c call, n int, devices []int) (*disk.Disk, *cairn.Store, plain) {
	t.Helper()
	d, s, p := someDisk(t)
	harmedInPart(d, devices, 0x155)
	d.Stop(n)
	switch err := c.on(s); {
	case err == api.OK && n > 0:
		return nil, nil, p
	case err != api.ErrDown || !d.Stopped():
		t.Fatalf("P11: %s, stopped behind %d steps: %d", c.what, n, err)
	}
	return d, s, p
}

// stays holds that what a store on a disk tells is one of two things, and is the same behind another crash and more harm, and that the store goes on from there.
func stays(t *testing.T, d *disk.Disk, ahead plain, c call, devices []int, where string) {
	t.Helper()
	now, behind := told(mustOpen(t, d), someKeys), ahead.behind(c)
	is := ahead
	if now != ahead.told(someKeys) {
		is = behind
	}
	if now != is.told(someKeys) {
		t.Fatalf("P11: %s, %s: %s, want %s or %s", c.what, where, now, ahead.told(someKeys), behind.told(someKeys))
	}
	left := harmed(d.Crash(0), devices)
	s := opens(t, left, is, where+", told, harmed again")
	later := call{"Put", "later", "x"}
	must(t, later, s)
	opens(t, harmed(left.Crash(0), devices), is.behind(later), where+", and one call more")
}

func TestP11StopAtEachStep(t *testing.T) {
	t.Parallel()
	sets := threes()
	for _, c := range lastCalls() {
		n := 0
		for ; n < 100; n++ {
			devices := sets[n*31%len(sets)]
			d, _, p := cutOff(t, c, n, devices)
			if d == nil {
				break
			}
			for keep := 0; keep < 1<<9; keep += 1 + n%3 {
				where := "stopped behind " + strconv.Itoa(n) + " steps, keep " + strconv.Itoa(keep)
				left := d.Crash(keep)
				if keep%3 > 0 {
					harmed(left, devices)
				}
				stays(t, left, p, c, devices, where)
			}
			for _, keep := range []int{-1, math.MinInt, math.MaxInt, 0x2aaaaaaaaaaaaaaa} {
				stays(t, harmedInPart(d.Crash(keep), devices, 0x2aa), p, c, devices, "stopped behind "+strconv.Itoa(n)+" steps")
			}
			stays(t, harmed(d, devices).Crash(-1), p, c, devices, "harmed ahead of the crash")
		}
		if n < 2 || n == 100 {
			t.Errorf("P11: %s has %d steps", c.what, n)
		}
	}
}

// Which of the devices are harmed behind the crash makes no difference.
func TestP11StopAndAnyThree(t *testing.T) {
	t.Parallel()
	for i, devices := range threes() {
		for _, c := range lastCalls() {
			for n := i % 3; ; n += 3 {
				d, _, p := cutOff(t, c, n, devices)
				if d == nil {
					break
				}
				for k := range 4 {
					stays(t, harmed(d.Crash(i*7+n*11+k*127), devices), p, c, devices, "three devices harmed")
				}
			}
		}
	}
}

// An Open that is cut off tells nothing, and the next one finds all.
func TestP11OpenCutOff(t *testing.T) {
	t.Parallel()
	for _, c := range lastCalls() {
		for i, devices := range threes() {
			d, _, p := cutOff(t, c, i%10, devices)
			if d == nil {
				continue
			}
			keep := i * 37 % 512
			for n := range 100 {
				left := harmed(d.Crash(keep), devices[:i%4])
				left.Stop(n)
				s, err := cairn.Open(left)
				if s != nil && err == api.OK {
					is := told(s, someKeys)
					if x := mustOpen(t, harmed(left.Crash(i), devices)); told(x, someKeys) != is {
						t.Fatalf("P11: %s: what Open told is not there behind a crash", c.what)
					}
					break
				}
				if s != nil || err != api.ErrDown || !left.Stopped() {
					t.Fatalf("P10: Open, stopped behind %d steps: %v, %d", n, s != nil, err)
				}
				stays(t, harmed(left.Crash(i*53+n*5), devices), p, c, devices, "and Open behind "+strconv.Itoa(n))
			}
		}
	}
}

// The first call of all is cut off: there is nothing ahead of it to fall back to.
func TestP11FirstCallCutOff(t *testing.T) {
	t.Parallel()
	c := call{"Put", "a", "one"}
	for n := range 10 {
		d := disk.New()
		s := mustOpen(t, d)
		d.Stop(n)
		if err := c.on(s); err != api.ErrDown {
			continue
		}
		for keep := range 1 << 9 {
			devices := threes()[(n*9+keep)%84]
			stays(t, harmed(d.Crash(keep), devices), newPlain(), c, devices, "the first of all")
		}
	}
}

// What is left of a call that was cut off does not mix with the next one, which is cut off too.
func TestP11TwoCallsCutOff(t *testing.T) {
	t.Parallel()
	first, second := call{"Put", "new", "one"}, call{"Put", "new", "two"}
	for n := range 10 {
		devices := threes()[n*8]
		d, _, p := cutOff(t, first, n, devices)
		if d == nil {
			break
		}
		for keep := 0; keep < 512; keep += 11 {
			for m := range 10 {
				left := harmed(d.Crash(keep), devices)
				s := mustOpen(t, left)
				if _, err := s.Get("new"); err == api.OK {
					break
				}
				left.Stop(m)
				if err := second.on(s); err != api.ErrDown {
					break
				}
				again := harmed(left.Crash(keep*3+m), devices)
				stays(t, again, p, second, devices, "the second that was cut off")
			}
		}
	}
}

func TestP11BehindErrDown(t *testing.T) {
	for _, c := range lastCalls() {
		for n := range 3 {
			d, s, p := cutOff(t, c, n, []int{1, 2, 3})
			now, behind := told(s, someKeys), p.behind(c)
			if now != p.told(someKeys) && now != behind.told(someKeys) {
				t.Errorf("P11: questions behind %s that was ErrDown: %s", c.what, now)
			}
			for range 2 {
				for _, next := range []call{{"Put", "later", ""}, {"Delete", "b", ""}, {what: "Seal"}, {what: "Scrub"}} {
					if err := next.on(s); err != api.ErrDown {
						t.Errorf("P11: %s behind %s that was ErrDown: %d", next.what, c.what, err)
					}
				}
				refused(t, s)
				if told(s, someKeys) != now {
					t.Errorf("P11: behind more calls that were ErrDown: %s, before: %s", told(s, someKeys), now)
				}
			}
			stays(t, d.Crash(-1), p, c, []int{1, 2, 3}, "more calls behind it")
		}
	}
}

// refused holds that the errors that commands have otherwise come first.
func refused(t *testing.T, s *cairn.Store) {
	t.Helper()
	put(t, s, "Other", "", api.ErrKey)
	put(t, s, "", sized(201), api.ErrKey)
	put(t, s, "later", sized(201), api.ErrLarge)
	put(t, s, "b", "", api.ErrExists)
	put(t, s, "a", "", api.ErrDead)
	del(t, s, "B", api.ErrKey)
	del(t, s, "a", api.ErrDead)
	del(t, s, "none", api.ErrNone)
}

func TestP11RefusedOnStoppedDisk(t *testing.T) {
	d, s, p := someDisk(t)
	d.Stop(0)
	refused(t, s)
	if err := s.Put("later", ""); err != api.ErrDown {
		t.Errorf("P11: Put on a disk that is stopped: %d", err)
	}
	steps := d.Steps()
	refused(t, s)
	told(s, someKeys)
	if d.Steps() != steps {
		t.Errorf("P2: refused commands and questions asked for %d steps", d.Steps()-steps)
	}
	if told(s, someKeys) != p.told(someKeys) {
		t.Errorf("P11: commands that could do no step changed the store: %s", told(s, someKeys))
	}
	x, q := disk.New(), newPlain()
	s = mustOpen(t, x)
	fill(s, q, 200, 1000)
	x.Stop(0)
	put(t, s, "later", sized(200), api.ErrFull)
	opens(t, x.Crash(0), q, "a full store on a disk that was stopped")
}

// Seal and Scrub that have nothing to do are ErrDown, too.
func TestP11SealedAndStopped(t *testing.T) {
	for _, c := range []call{{what: "Seal"}, {what: "Scrub"}} {
		d, s, p := someDisk(t)
		must(t, call{what: "Seal"}, s)
		d.Stop(0)
		for range 2 {
			if err := c.on(s); err != api.ErrDown {
				t.Errorf("P11: %s on a disk that is stopped: %d", c.what, err)
			}
		}
		opens(t, d.Crash(0), p, "behind "+c.what)
	}
}

func TestP2CallsOnDevicesLeaveNoGoroutine(t *testing.T) {
	leavesNoGoroutine(t, func() {
		for n := range 10 {
			d, s, _ := someDisk(t)
			d.Stop(n)
			s.Put("new", "x")
			s.Seal()
			s.Scrub()
			cairn.Open(d.Crash(n))
		}
	})
}

// world is a disk, what is promised of it, and what has befallen it.
type world struct {
	r       *rand.Rand
	d       *disk.Disk
	s       *cairn.Store // nil: none is open
	p       plain        // behind all calls that were OK
	lost    *call        // the first that was ErrDown
	devices []int        // that were harmed since the last Scrub
}

// someHarm harms blocks, within bounds.
func (w *world) someHarm() {
	if len(w.devices) < 3 {
		if device := w.r.Intn(9); !slices.Contains(w.devices, device) {
			w.devices = append(w.devices, device)
		}
	}
	if w.r.Intn(2) == 0 {
		harmed(w.d, w.devices)
	} else {
		harmedInPart(w.d, w.devices, w.r.Intn(1<<10))
	}
}

// someCall does a call, on a disk that may stop meanwhile.
func (w *world) someCall(t *testing.T) {
	key := someKeys[w.r.Intn(len(someKeys)-1)] + strconv.Itoa(w.r.Intn(9))
	c := []call{{"Put", key, sized(w.r.Intn(60))}, {"Put", key, ""}, {"Delete", key, ""}, {what: "Seal"}, {what: "Scrub"}}[w.r.Intn(5)]
	if w.r.Intn(3) == 0 {
		w.d.Stop(w.r.Intn(25))
	}
	now := w.p.behind(call{what: "Seal"})
	want := c.onPlain(now)
	err := c.on(w.s)
	switch {
	case err == api.ErrDown && want == api.OK && w.d.Stopped():
		if w.lost == nil {
			w.lost = &c
		}
	case err != want || err == api.OK && w.lost != nil:
		t.Fatalf("P11: %s(%q) = %d, want %d", c.what, c.key, err, want)
	case err == api.OK:
		w.p = now
		if c.what == "Scrub" {
			whole(t, w.d)
			w.devices = nil
		}
	}
}

// someOpen opens the disk, which may stop meanwhile, and holds the store against what it should be.
func (w *world) someOpen(t *testing.T, keys []string) {
	if w.r.Intn(3) == 0 {
		w.d.Stop(w.r.Intn(25))
	}
	s, err := cairn.Open(w.d)
	if err == api.ErrDown && s == nil && w.d.Stopped() {
		return
	}
	if err != api.OK || s == nil {
		t.Fatalf("P10: Open: %v, %d", s != nil, err)
	}
	if got := told(s, keys); got != w.p.told(keys) {
		if w.lost == nil || got != w.p.behind(*w.lost).told(keys) {
			t.Fatalf("P11: behind Open: %s, want %s", got, w.p.told(keys))
		}
		w.p = w.p.behind(*w.lost)
	}
	w.s, w.lost = s, nil
}

// crash takes what is left, with no store open.
func (w *world) crash() {
	w.d, w.s = w.d.Crash(int(w.r.Uint64())), nil
}

// Calls, harm, stops and crashes as they come.
func TestP9P10P11World(t *testing.T) {
	t.Parallel()
	var keys []string
	for _, key := range someKeys {
		for i := range 9 {
			keys = append(keys, key+strconv.Itoa(i))
		}
	}
	for seed := range int64(200) {
		w := &world{r: rand.New(rand.NewSource(seed)), d: disk.New(), p: newPlain()}
		for range 150 {
			switch n := w.r.Intn(12); {
			case n < 2:
				w.someHarm()
			case n == 2 || w.d.Stopped() && w.r.Intn(3) == 0:
				w.crash()
			case n == 3 && w.lost == nil:
				w.s = nil
			case w.s == nil:
				w.someOpen(t, keys)
			default:
				w.someCall(t)
			}
		}
	}
}
