package cairn_test

import (
	"math"
	"math/rand"
	"slices"
	"strconv"
	"strings"
	"sync"
	"testing"

	"cairn/api"
	"cairn/cairn"
	"cairn/disk"
)

// mustOpen tells a store on a disk.
func mustOpen(t *testing.T, d *disk.Disk) *cairn.Store {
	t.Helper()
	s, err := cairn.Open(d)
	if s == nil || err != api.OK {
		t.Fatalf("P6: Open: %v, %d", s, err)
	}
	return s
}

// newStore tells a store on a new disk.
func newStore(t *testing.T) *cairn.Store {
	t.Helper()
	return mustOpen(t, disk.New())
}

func put(t *testing.T, s *cairn.Store, key, blob string, want api.Errno) {
	t.Helper()
	if err := s.Put(key, blob); err != want {
		t.Errorf("P6: Put(%.12q, %d bytes) = %d, want %d", key, len(blob), err, want)
	}
}

// get asks for a key by Get, and by GetAll.
func get(t *testing.T, s *cairn.Store, key, want string, wantErr api.Errno) {
	t.Helper()
	if blob, err := s.Get(key); blob != want || err != wantErr {
		t.Errorf("P7: Get(%.12q) = %.12q, %d, want %.12q, %d", key, blob, err, want, wantErr)
	}
	if all := s.GetAll([]string{key}); !slices.Equal(all, []api.Answer{{Blob: want, Err: wantErr}}) {
		t.Errorf("P7: GetAll(%.12q) = %#v, want %.12q, %d", key, all, want, wantErr)
	}
}

func del(t *testing.T, s *cairn.Store, key string, want api.Errno) {
	t.Helper()
	if err := s.Delete(key); err != want {
		t.Errorf("P7: Delete(%.12q) = %d, want %d", key, err, want)
	}
}

func list(t *testing.T, what string, got []string, want ...string) {
	t.Helper()
	if !slices.Equal(got, want) {
		t.Errorf("P8: %s = %q, want %q", what, got, want)
	}
}

func stats(t *testing.T, s *cairn.Store, live, dead, used int) {
	t.Helper()
	if got := s.Stats(); got != (api.Stats{Live: live, Dead: dead, Used: used}) {
		t.Errorf("P8: Stats = %+v, want %d live, %d dead, %d used", got, live, dead, used)
	}
}

// sized tells a blob of so many bytes, of all values.
func sized(n int) string {
	out := make([]byte, n)
	for i := range out {
		out[i] = byte(i * 7)
	}
	return string(out)
}

// noKeys are too long, too short, or have a sign that no key has: one just beside those that keys have, a great letter, a letter of several bytes.
func noKeys() []string {
	out := []string{"", "123456789", "abcdefghi", strings.Repeat("a", 1<<20), "a b", " a", "a ", "A", "aZ", "\u00e9", "\u0661", "\xff", "a\x00", "\x00"}
	for _, sign := range "/:`{-_.@[\n\x7f" {
		out = append(out, string(sign), "a"+string(sign), string(sign)+"0", "1234567"+string(sign))
	}
	return out
}

func TestP6NewDisk(t *testing.T) {
	s := newStore(t)
	stats(t, s, 0, 0, 0)
	list(t, "Keys", s.Keys("", 1000))
	list(t, "Largest", s.Largest(1000))
	get(t, s, "a", "", api.ErrNone)
}

func TestP6P7NoKeys(t *testing.T) {
	s := newStore(t)
	for _, key := range noKeys() {
		put(t, s, key, "x", api.ErrKey)
		put(t, s, key, sized(201), api.ErrKey)
		get(t, s, key, "", api.ErrKey)
		del(t, s, key, api.ErrKey)
	}
	stats(t, s, 0, 0, 0)
}

func TestP6EverySign(t *testing.T) {
	s := newStore(t)
	for b := range 256 {
		key, want := string([]byte{byte(b)}), api.ErrKey
		if strings.Contains("abcdefghijklmnopqrstuvwxyz0123456789", key) {
			want = api.OK
		}
		put(t, s, key, key+key, want)
	}
	stats(t, s, 36, 0, 36*26)
	get(t, s, "a", "aa", api.OK)
	get(t, s, "z", "zz", api.OK)
	get(t, s, "0", "00", api.OK)
	get(t, s, "9", "99", api.OK)
}

func TestP6Put(t *testing.T) {
	s := newStore(t)
	put(t, s, "12345678", sized(200), api.OK)
	put(t, s, "empty", "", api.OK)
	put(t, s, "large", sized(201), api.ErrLarge)
	put(t, s, "large", strings.Repeat("x", 1<<20), api.ErrLarge)
	get(t, s, "12345678", sized(200), api.OK)
	get(t, s, "1234567", "", api.ErrNone)
	get(t, s, "empty", "", api.OK)
	get(t, s, "large", "", api.ErrNone)
	put(t, s, "empty", "not empty", api.ErrExists)
	put(t, s, "empty", "", api.ErrExists)
	get(t, s, "empty", "", api.OK)
	stats(t, s, 2, 0, 248)
}

// filled tells a store of which 6000 are used: 26 blobs of 200 bytes, ka to kz, and one of 152, full.
func filled(t *testing.T) *cairn.Store {
	t.Helper()
	s := newStore(t)
	for c := 'a'; c <= 'z'; c++ {
		put(t, s, "k"+string(c), sized(200), api.OK)
	}
	put(t, s, "full", sized(153), api.ErrFull)
	put(t, s, "full", sized(200), api.ErrFull)
	put(t, s, "full", sized(152), api.OK)
	stats(t, s, 27, 0, 6000)
	return s
}

func TestP6Full(t *testing.T) {
	s := filled(t)
	put(t, s, "more", "", api.ErrFull)
	put(t, s, "more", sized(200), api.ErrFull)
	get(t, s, "more", "", api.ErrNone)
	// A dead key costs what a key costs, and no more.
	del(t, s, "ka", api.OK)
	stats(t, s, 26, 1, 5800)
	put(t, s, "more", sized(177), api.ErrFull)
	put(t, s, "more", sized(176), api.OK)
	del(t, s, "kb", api.OK)
	put(t, s, "one", sized(175), api.OK)
	stats(t, s, 27, 2, 5999)
	put(t, s, "less", "", api.ErrFull)
}

// As many keys as there can be.
func TestP6FullOfKeys(t *testing.T) {
	s := newStore(t)
	for i := range 250 {
		put(t, s, "k"+strconv.Itoa(i), "", api.OK)
		del(t, s, "k"+strconv.Itoa(i/2*2), []api.Errno{api.OK, api.ErrDead}[i%2])
	}
	stats(t, s, 125, 125, 6000)
	put(t, s, "more", "", api.ErrFull)
	if got := s.Keys("", 1000); len(got) != 125 || got[0] != "k1" || got[124] != "k99" {
		t.Errorf("P8: Keys of 125: %q", got)
	}
}

func TestP1FirstError(t *testing.T) {
	s := filled(t)
	del(t, s, "ka", api.OK)
	put(t, s, "again", sized(176), api.OK)
	stats(t, s, 27, 1, 6000)
	for _, c := range []struct {
		key  string
		n    int
		want api.Errno
	}{
		{"K", 201, api.ErrKey}, {"", 0, api.ErrKey},
		{"kb", 201, api.ErrLarge}, {"ka", 201, api.ErrLarge}, {"none", 201, api.ErrLarge},
		{"kb", 200, api.ErrExists}, {"kb", 0, api.ErrExists},
		{"ka", 200, api.ErrDead}, {"ka", 0, api.ErrDead},
		{"none", 200, api.ErrFull}, {"none", 0, api.ErrFull},
	} {
		put(t, s, c.key, sized(c.n), c.want)
	}
	stats(t, s, 27, 1, 6000)
	get(t, s, "kb", sized(200), api.OK)
	get(t, s, "none", "", api.ErrNone)
}

func TestP7DeadKeys(t *testing.T) {
	s := newStore(t)
	del(t, s, "a", api.ErrNone)
	put(t, s, "a", "one", api.OK)
	put(t, s, "b", "", api.OK)
	put(t, s, "c", "three", api.OK)
	for _, key := range []string{"a", "b"} {
		del(t, s, key, api.OK)
		del(t, s, key, api.ErrDead)
		get(t, s, key, "", api.ErrDead)
		put(t, s, key, "again", api.ErrDead)
		put(t, s, key, "", api.ErrDead)
		get(t, s, key, "", api.ErrDead)
	}
	get(t, s, "c", "three", api.OK)
	get(t, s, "aa", "", api.ErrNone)
	list(t, "Keys", s.Keys("", 9), "c")
	list(t, "Largest", s.Largest(9), "c")
	stats(t, s, 1, 2, 77)
}

func TestP7GetAll(t *testing.T) {
	s := newStore(t)
	put(t, s, "a", "one", api.OK)
	put(t, s, "b", "two", api.OK)
	put(t, s, "e", "", api.OK)
	put(t, s, "d", "gone", api.OK)
	del(t, s, "d", api.OK)
	want := []api.Answer{{Blob: "two"}, {Err: api.ErrNone}, {Blob: "one"}, {Err: api.ErrDead}, {}, {Err: api.ErrKey}, {Blob: "two"}, {Err: api.ErrKey}}
	keys := []string{"b", "none", "a", "d", "e", "A", "b", ""}
	if got := s.GetAll(keys); !slices.Equal(got, want) {
		t.Errorf("P7: GetAll(%q) = %+v, want %+v", keys, got, want)
	}
	if got, and := s.GetAll(nil), s.GetAll([]string{}); len(got)+len(and) > 0 {
		t.Errorf("P7: GetAll of no keys: %+v, %+v", got, and)
	}
	if got := s.GetAll(slices.Repeat(keys, 5000)); !slices.Equal(got, slices.Repeat(want, 5000)) {
		t.Errorf("P7: GetAll of 40000 keys: other answers than of each")
	}
}

// someSizes has keys with blobs of several sizes, and a dead one.
func someSizes(t *testing.T) *cairn.Store {
	t.Helper()
	s := newStore(t)
	put(t, s, "m", sized(5), api.OK)
	put(t, s, "dead", sized(200), api.OK)
	put(t, s, "b0", sized(9), api.OK)
	put(t, s, "b", sized(5), api.OK)
	put(t, s, "9", sized(5), api.OK)
	put(t, s, "zzzzzzzz", sized(10), api.OK)
	put(t, s, "a", "", api.OK)
	put(t, s, "ba", sized(100), api.OK)
	del(t, s, "dead", api.OK)
	return s
}

func TestP8Keys(t *testing.T) {
	s := someSizes(t)
	all := []string{"9", "a", "b", "b0", "ba", "m", "zzzzzzzz"}
	for n := range 10 {
		list(t, "Keys", s.Keys("", n), all[:min(n, 7)]...)
	}
	for _, n := range []int{-1, -2, math.MinInt} {
		list(t, "Keys of less than one", s.Keys("", n))
	}
	list(t, "Keys of the most", s.Keys("", math.MaxInt), all...)
	for after, from := range map[string]int{
		"": 0, "\x00": 0, "8": 0, "9": 1, "90": 1, "A": 1, "Z": 1, "_": 1, "a": 2, "a\x00": 2, "az": 2, "b": 3, "b\x00": 3, "b0": 4, "b00": 4,
		"b1": 4, "ba": 5, "ba\xff": 5, "d": 5, "dead": 5, "lzzzzzzzzzzz": 5, "m": 6, "zzzzzzz": 6, "zzzzzzzy": 6, "zzzzzzzz": 7, "zzzzzzzz0": 7, "{": 7, "\xff": 7,
	} {
		list(t, "Keys behind "+after, s.Keys(after, 100), all[from:]...)
		list(t, "Two keys behind "+after, s.Keys(after, 2), all[from:min(from+2, 7)]...)
	}
	list(t, "Keys behind many bytes", s.Keys(strings.Repeat("b", 1<<20), 1), "m")
}

func TestP8Largest(t *testing.T) {
	s := someSizes(t)
	all := []string{"ba", "zzzzzzzz", "b0", "9", "b", "m", "a"}
	for n := range 10 {
		list(t, "Largest", s.Largest(n), all[:min(n, 7)]...)
	}
	for _, n := range []int{-1, -2, math.MinInt} {
		list(t, "Largest of less than one", s.Largest(n))
	}
	list(t, "Largest of the most", s.Largest(math.MaxInt), all...)
	list(t, "Keys are still in their order", s.Keys("", 3), "9", "a", "b")
}

func TestP8Stats(t *testing.T) {
	s := newStore(t)
	put(t, s, "a", "one", api.OK)
	put(t, s, "b", "three", api.OK)
	stats(t, s, 2, 0, 56)
	put(t, s, "a", "x", api.ErrExists)
	list(t, "Largest", s.Largest(1), "b")
	del(t, s, "a", api.OK)
	stats(t, s, 1, 1, 53)
	put(t, s, "a", "y", api.ErrDead)
	stats(t, s, 1, 1, 53)
}

func TestP2StoresOnOtherDisks(t *testing.T) {
	one, two := newStore(t), newStore(t)
	put(t, one, "a", "one", api.OK)
	get(t, two, "a", "", api.ErrNone)
	put(t, two, "a", "two", api.OK)
	put(t, two, "b", "", api.OK)
	del(t, two, "a", api.OK)
	get(t, one, "a", "one", api.OK)
	stats(t, one, 1, 0, 27)
	stats(t, two, 1, 1, 48)
	list(t, "Keys", one.Keys("", 9), "a")
	list(t, "Keys", two.Keys("", 9), "b")
}

// spend writes over a list and over the room behind its end.
func spend[T any](l []T, with T) {
	l = l[:cap(l)]
	for i := range l {
		l[i] = with
	}
}

func TestP2ListsAreTheCallers(t *testing.T) {
	s := someSizes(t)
	keys, largest, all := s.Keys("", 3), s.Largest(3), s.GetAll([]string{"9", "a"})
	// Lists that come out at the same time share no room, nor does any with one that comes out later.
	spend(s.Keys("", 3), "mine")
	spend(s.Keys("", 100), "mine")
	spend(s.Keys("b", 1), "mine")
	spend(s.Largest(3), "mine")
	spend(s.Largest(100), "mine")
	spend(s.GetAll([]string{"9", "a"}), api.Answer{Blob: "mine", Err: api.ErrArg})
	list(t, "Keys, ahead", keys, "9", "a", "b")
	list(t, "Largest, ahead", largest, "ba", "zzzzzzzz", "b0")
	if !slices.Equal(all, []api.Answer{{Blob: sized(5)}, {}}) {
		t.Errorf("P2: GetAll, ahead: %#v", all)
	}
	list(t, "Keys, behind", s.Keys("", 100), "9", "a", "b", "b0", "ba", "m", "zzzzzzzz")
	list(t, "Largest, behind", s.Largest(100), "ba", "zzzzzzzz", "b0", "9", "b", "m", "a")
	get(t, s, "9", sized(5), api.OK)
	stats(t, s, 7, 1, 8*24+134)
}

func TestP2ListsHandedIn(t *testing.T) {
	s := someSizes(t)
	keys := []string{"9", "none", "dead", "A", "b", "behind"}
	before := slices.Clone(keys)
	first := s.GetAll(keys[:4])
	if !slices.Equal(keys, before) {
		t.Errorf("P2: GetAll wrote into its list: %q", keys)
	}
	want := slices.Clone(first)
	spend(keys, "b0")
	if !slices.Equal(first, want) {
		t.Errorf("P2: GetAll kept its list: %#v, want %#v", first, want)
	}
}

func TestP2NoSteps(t *testing.T) {
	d := disk.New()
	s := mustOpen(t, d)
	put(t, s, "a", "one", api.OK)
	put(t, s, "b", "two", api.OK)
	del(t, s, "b", api.OK)
	steps, bytes := d.Steps(), d.Bytes()
	for _, key := range []string{"a", "b", "c", "", "C"} {
		s.Get(key)
		s.GetAll([]string{key, key})
		s.Keys(key, 5)
	}
	s.Largest(5)
	s.Stats()
	put(t, s, "", "", api.ErrKey)
	put(t, s, "c", sized(201), api.ErrLarge)
	put(t, s, "a", "", api.ErrExists)
	put(t, s, "b", "", api.ErrDead)
	del(t, s, "", api.ErrKey)
	del(t, s, "b", api.ErrDead)
	del(t, s, "c", api.ErrNone)
	if d.Steps() != steps || d.Bytes() != bytes {
		t.Errorf("P2: questions and refused commands asked for %d steps, and changed %d bytes", d.Steps()-steps, d.Bytes()-bytes)
	}
}

func TestP2StoreLeavesNoGoroutine(t *testing.T) {
	s := someSizes(t)
	leavesNoGoroutine(t, func() {
		for range 20 {
			s.GetAll(slices.Repeat([]string{"9", "dead", "none", ""}, 50))
		}
	})
}

// Without a lock, puts at once would overwrite one another.
func TestP2StoreCallsAtOnce(t *testing.T) {
	s := newStore(t)
	var all sync.WaitGroup
	for w := range 10 {
		all.Add(1)
		go func() {
			defer all.Done()
			for i := range 20 {
				key := "w" + strconv.Itoa(w) + "i" + strconv.Itoa(i)
				put(t, s, key, "x", api.OK)
				s.GetAll([]string{key, "w0i0"})
				s.Keys("", 5)
				s.Largest(5)
				del(t, s, key, api.OK)
				get(t, s, key, "", api.ErrDead)
			}
		}()
	}
	all.Wait()
	stats(t, s, 0, 200, 4800)
}

// plain is a store as the document tells it, by the plainest means.
type plain struct {
	blobs map[string]string
	dead  map[string]bool
}

func (p plain) used() int {
	n := 24 * (len(p.blobs) + len(p.dead))
	for _, blob := range p.blobs {
		n += len(blob)
	}
	return n
}

func (p plain) get(key string) (string, api.Errno) {
	blob, live := p.blobs[key]
	switch {
	case key == "" || len(key) > 8 || strings.Trim(key, "abcdefghijklmnopqrstuvwxyz0123456789") != "":
		return "", api.ErrKey
	case p.dead[key]:
		return "", api.ErrDead
	case !live:
		return "", api.ErrNone
	}
	return blob, api.OK
}

func (p plain) put(key, blob string) api.Errno {
	_, err := p.get(key)
	switch {
	case err == api.ErrKey:
		return err
	case len(blob) > 200:
		return api.ErrLarge
	case err == api.OK:
		return api.ErrExists
	case err == api.ErrDead:
		return err
	case p.used()+24+len(blob) > 6000:
		return api.ErrFull
	}
	p.blobs[key] = blob
	return api.OK
}

func (p plain) del(key string) api.Errno {
	_, err := p.get(key)
	if err == api.OK {
		delete(p.blobs, key)
		p.dead[key] = true
	}
	return err
}

// keys tells the live keys, rising.
func (p plain) keys() []string {
	var out []string
	for key := range p.blobs {
		out = append(out, key)
	}
	slices.Sort(out)
	return out
}

// largest tells the live keys, by the sizes of their blobs.
func (p plain) largest() []string {
	out := p.keys()
	slices.SortStableFunc(out, func(a, b string) int { return len(p.blobs[b]) - len(p.blobs[a]) })
	return out
}

// same holds all that a store answers against what it should.
func same(t *testing.T, s *cairn.Store, p plain, keys []string) {
	t.Helper()
	for _, key := range keys {
		blob, err := p.get(key)
		get(t, s, key, blob, err)
	}
	live := p.keys()
	list(t, "Keys", s.Keys("", 1000), live...)
	list(t, "Largest", s.Largest(1000), p.largest()...)
	list(t, "Some of Largest", s.Largest(len(live)/2), p.largest()[:len(live)/2]...)
	if len(live) > 2 {
		list(t, "Some of Keys", s.Keys(live[1], len(live)/2), live[2:2+min(len(live)/2, len(live)-2)]...)
	}
	stats(t, s, len(live), len(p.dead), p.used())
}

func TestP6P7P8AsPlain(t *testing.T) {
	keys := []string{"", "A", "123456789"}
	for i := range 60 {
		keys = append(keys, strconv.FormatInt(int64(i*i*i*997), 36))
	}
	for seed := range int64(12) {
		r := rand.New(rand.NewSource(seed))
		s, p := newStore(t), plain{map[string]string{}, map[string]bool{}}
		for range 400 {
			key := keys[r.Intn(len(keys))]
			if r.Intn(4) == 0 {
				del(t, s, key, p.del(key))
			} else {
				blob := sized([]int{0, 1, 1, 60, 60, 199, 200, 201}[r.Intn(8)])
				put(t, s, key, blob, p.put(key, blob))
			}
		}
		same(t, s, p, keys)
		if t.Failed() {
			t.Fatalf("with the seed %d", seed)
		}
	}
}

func TestP12DeadStaysDead(t *testing.T) {
	s := newStore(t)
	put(t, s, "a", "x", api.OK)
	del(t, s, "a", api.OK)
	for i := range 100 {
		put(t, s, "b"+strconv.Itoa(i), "x", api.OK)
		put(t, s, "a", sized(i), api.ErrDead)
		del(t, s, "b"+strconv.Itoa(i), api.OK)
		get(t, s, "a", "", api.ErrDead)
	}
	stats(t, s, 0, 101, 2424)
}
