package cairn_test

import (
	"runtime"
	"slices"
	"strings"
	"sync"
	"testing"
	"time"

	"cairn/api"
	"cairn/cairn"
)

// samples: no bytes, frames that are just full, bytes of all values, numbers that need both bytes of the head, the most bytes.
func samples() []string {
	every := make([]byte, 256)
	for i := range every {
		every[i] = byte(i)
	}
	return []string{
		"", "\x00", "hi", "abc", "four", "five!", "ten bytes.", strings.Repeat("\x00", 9), strings.Repeat("\xff", 100),
		string(every), strings.Repeat("z", 255), strings.Repeat("y", 257), strings.Repeat(string(every), 40)[:api.MaxData],
	}
}

// places tells a list of which the elements that are named in a mask are true.
func places(mask int) []bool {
	out := make([]bool, api.All)
	for j := range out {
		out[j] = mask>>j&1 == 1
	}
	return out
}

func ones(have []bool) int {
	n := 0
	for _, h := range have {
		if h {
			n++
		}
	}
	return n
}

const everyPlace = 1<<api.All - 1

// mustShards tells shards that there must be.
func mustShards(t *testing.T, data string) []string {
	t.Helper()
	out, err := cairn.Shards(data)
	if len(out) != api.All || err != api.OK {
		t.Fatalf("P4: Shards of %d bytes: %d shards, %d", len(data), len(out), err)
	}
	return out
}

// rows tells a frame's first six shards, and three that are not there.
func rows(frame string) []string {
	var six [6][]byte
	for i := range len(frame) {
		six[i%6] = append(six[i%6], frame[i])
	}
	out := make([]string, api.All)
	for j, row := range six {
		out[j] = string(row)
	}
	return out
}

func TestP3Examples(t *testing.T) {
	for _, c := range []struct{ a, b, want byte }{{2, 128, 29}, {3, 7, 9}, {0, 0, 0}, {0, 255, 0}, {255, 0, 0}, {1, 255, 255}, {255, 255, 226}} {
		if got := cairn.Mul(c.a, c.b); got != c.want {
			t.Errorf("P3: Mul(%d, %d) = %d, want %d", c.a, c.b, got, c.want)
		}
	}
	for _, c := range []struct {
		a, want byte
		err     api.Errno
	}{{0, 0, api.ErrArg}, {1, 1, api.OK}, {2, 142, api.OK}, {142, 2, api.OK}, {255, 253, api.OK}} {
		if got, err := cairn.Inv(c.a); got != c.want || err != c.err {
			t.Errorf("P3: Inv(%d) = %d, %d, want %d, %d", c.a, got, err, c.want, c.err)
		}
	}
}

func TestP3Field(t *testing.T) {
	for a := range 256 {
		x := byte(a)
		for b := range 256 {
			y := byte(b)
			if cairn.Mul(x, y) != cairn.Mul(y, x) {
				t.Fatalf("P3: %d times %d is not %d times %d", a, b, b, a)
			}
			if cairn.Mul(x^1, y) != cairn.Mul(x, y)^y || cairn.Mul(x^128, y) != cairn.Mul(x, y)^cairn.Mul(128, y) {
				t.Fatalf("P3: the product of %d and %d does not go with sums", a, b)
			}
		}
		if i, err := cairn.Inv(x); a > 0 && (cairn.Mul(x, i) != 1 || err != api.OK) {
			t.Errorf("P3: Inv(%d) = %d, %d", a, i, err)
		}
	}
}

// The last three of each were worked out elsewhere, by elimination.
func TestP4Known(t *testing.T) {
	for _, c := range []struct {
		data   string
		shards []string
	}{
		{"", []string{"\x00", "\x00", "\x00", "\x00", "\x00", "\x00", "\x00", "\x00", "\x00"}},
		{"hi", []string{"\x02", "\x00", "h", "i", "\x00", "\x00", "\x62", "\x61", "\x13"}},
		{"four", []string{"\x04", "\x00", "f", "o", "u", "r", "\x25", "\x2f", "\xad"}},
		{"five!", []string{"\x05!", "\x00\x00", "f\x00", "i\x00", "v\x00", "e\x00", "\x11\xe7", "\x08\xc6", "\x03\x19"}},
		{"\xff\xff\xff\xff", []string{"\x04", "\x00", "\xff", "\xff", "\xff", "\xff", "\x1c", "\x18", "\xc5"}},
	} {
		if got := mustShards(t, c.data); !slices.Equal(got, c.shards) {
			t.Errorf("P4: Shards(%q) = %q, want %q", c.data, got, c.shards)
		}
	}
}

func TestP4Edges(t *testing.T) {
	for n, size := range map[int]int{0: 1, 4: 1, 5: 2, 10: 2, 11: 3, 7996: 1333, 7997: 1334, 8000: 1334} {
		for j, shard := range mustShards(t, strings.Repeat("x", n)) {
			if len(shard) != size {
				t.Errorf("P4: shard %d of %d bytes has %d, want %d", j, n, len(shard), size)
			}
		}
	}
	for _, n := range []int{8001, 8002, 8003, 65536, 1 << 20} {
		if got, err := cairn.Shards(strings.Repeat("x", n)); got != nil || err != api.ErrLarge {
			t.Errorf("P4: Shards of %d bytes: %d shards, %d, want ErrLarge", n, len(got), err)
		}
	}
}

func TestP5AnySix(t *testing.T) {
	for _, data := range samples() {
		shards := mustShards(t, data)
		for mask := range everyPlace + 1 {
			have := places(mask)
			given := slices.Clone(shards)
			for j := range given {
				if !have[j] {
					given[j] = []string{"", "junk", strings.Repeat("\x01", len(shards[0])), strings.Repeat("long", 5000)}[(mask+j)%4]
				}
			}
			want, wantErr := data, api.OK
			if ones(have) < 6 {
				want, wantErr = "", api.ErrFew
			}
			if got, err := cairn.Whole(given, have); got != want || err != wantErr {
				t.Fatalf("P5: Whole of the shards %v of %d bytes: %d bytes, %d, want %d bytes, %d", have, len(data), len(got), err, len(want), wantErr)
			}
		}
	}
}

func TestP5WrongLists(t *testing.T) {
	shards := mustShards(t, "some bytes")
	for n := range 12 {
		for m := range 12 {
			l, have := slices.Repeat(shards, 2)[:n], slices.Repeat([]bool{true}, m)
			want := api.ErrArg
			if n == 9 && m == 9 {
				want = api.OK
			}
			if got, err := cairn.Whole(l, have); err != want || err != api.OK && got != "" {
				t.Errorf("P5: Whole of %d shards and %d bools: %q, %d, want %d", n, m, got, err, want)
			}
		}
	}
	// Where several errors apply, the one that is named first is answered.
	for _, c := range []struct {
		shards []string
		have   []bool
		want   api.Errno
	}{
		{nil, nil, api.ErrArg},
		{shards, nil, api.ErrArg},
		{nil, places(everyPlace), api.ErrArg},
		{shards[:8], make([]bool, 9), api.ErrArg},
		{make([]string, 8), make([]bool, 8), api.ErrArg},
		{make([]string, 9), make([]bool, 9), api.ErrFew},
		{make([]string, 9), places(31), api.ErrFew},
		{make([]string, 9), places(63), api.ErrCode},
	} {
		if got, err := cairn.Whole(c.shards, c.have); got != "" || err != c.want {
			t.Errorf("P5: Whole(%q, %v) = %q, %d, want %d", c.shards, c.have, got, err, c.want)
		}
	}
}

// turns tells a shard's bytes turned into others in several ways.
func turns(shard string) []string {
	last := len(shard) - 1
	return []string{
		"", shard[1:], shard[:last], shard + "\x00", "\x00" + shard, strings.Repeat(shard, 2000),
		string([]byte{shard[0] ^ 1}) + shard[1:],
		shard[:last] + string([]byte{shard[last] ^ 128}),
	}
}

func TestP5OneShardTurned(t *testing.T) {
	const data = "bytes of some length"
	shards := mustShards(t, data)
	for j := range api.All {
		for _, bad := range turns(shards[j]) {
			given := slices.Clone(shards)
			given[j] = bad
			for mask := range everyPlace + 1 {
				have := places(mask)
				if n := ones(have); n < 6 || n == 6 && have[j] {
					continue // six shards of one length are those of some frame, be it of no bytes
				}
				want, wantErr := data, api.OK
				if have[j] {
					want, wantErr = "", api.ErrCode
				}
				if got, err := cairn.Whole(given, have); got != want || err != wantErr {
					t.Fatalf("P5: Whole of %v with shard %d %.20q: %q, %d, want %q, %d", have, j, bad, got, err, want, wantErr)
				}
			}
		}
	}
}

func TestP5FramesOfNoBytes(t *testing.T) {
	zeros := func(n int) string { return strings.Repeat("\x00", n) }
	for _, frame := range []string{
		"\x05\x00abcd", "\xff\x00abcd", "\x00\x01abcd", "\xff\xffabcd",
		"\x00\x00\x00\x00\x00\x01", "\x00\x00\x01\x00\x00\x00", "\x03\x00abcd",
		zeros(12), "\x04\x00abcd" + zeros(6), "\x05\x00abcde" + zeros(11), "\x05\x00abcde" + zeros(4) + "\x01",
		"\x41\x1f" + strings.Repeat("x", 8001) + "\x00", "\x42\x1f" + strings.Repeat("x", 8002),
		"\x43\x1f" + strings.Repeat("x", 8003) + zeros(5), "\x40\x1f" + strings.Repeat("x", 8000) + zeros(8),
		"\xff\xff" + strings.Repeat("x", 65535) + zeros(5),
		strings.Repeat("x", 6<<18),
	} {
		if got, err := cairn.Whole(rows(frame), places(63)); got != "" || err != api.ErrCode {
			t.Errorf("P5: Whole of the frame %.20q of %d bytes: %.20q, %d, want ErrCode", frame, len(frame), got, err)
		}
	}
	for _, frame := range []string{zeros(6), "\x04\x00abcd", "\x05\x00abcde" + zeros(5), "\x40\x1f" + strings.Repeat("x", 8000) + zeros(2)} {
		n := int(frame[0]) + 256*int(frame[1])
		if got, err := cairn.Whole(rows(frame), places(63)); got != frame[2:2+n] || err != api.OK {
			t.Errorf("P5: Whole of the frame %.20q: %.20q, %d, want its %d bytes", frame, got, err, n)
		}
	}
}

func TestP2NothingIsWrittenInto(t *testing.T) {
	shards := append(slices.Grow(mustShards(t, "some bytes"), 3), "x", "y", "z")
	have := append(make([]bool, 0, 12), places(everyPlace^2)...)
	have = append(have, true, false, true)
	shards[1] = "not these"
	shardsBefore, haveBefore := slices.Clone(shards), slices.Clone(have)
	for _, n := range []int{9, 12} {
		cairn.Whole(shards[:n], have[:n])
		cairn.Whole(shards[:n], make([]bool, n))
	}
	if !slices.Equal(shards, shardsBefore) || !slices.Equal(have, haveBefore) {
		t.Errorf("P2: Whole wrote into a list: %q, %v", shards, have)
	}
}

func TestP2FreshLists(t *testing.T) {
	first, second := mustShards(t, "hi"), mustShards(t, "hi")
	room := first[:cap(first)]
	for i := range room {
		room[i] = "mine"
	}
	third := mustShards(t, "hi")
	if !slices.Equal(second, third) || second[2] != "h" {
		t.Errorf("P2: a list that was written into shows in others: %q, %q", second, third)
	}
}

// leavesNoGoroutine tells whether none is left of what a function started.
func leavesNoGoroutine(t *testing.T, f func()) {
	t.Helper()
	before := runtime.NumGoroutine()
	f()
	// One that has told its end may still be on its last instructions.
	for range 100 {
		if runtime.NumGoroutine() <= before {
			return
		}
		time.Sleep(10 * time.Millisecond)
	}
	t.Errorf("P2: %d goroutines, %d ahead of the calls", runtime.NumGoroutine(), before)
}

func TestP2NoGoroutineIsLeft(t *testing.T) {
	leavesNoGoroutine(t, func() {
		for range 50 {
			cairn.Whole(mustShards(t, "some bytes"), places(everyPlace))
		}
	})
}

func TestP2CallsAtOnce(t *testing.T) {
	var all sync.WaitGroup
	for _, data := range samples() {
		all.Add(1)
		go func() {
			defer all.Done()
			for mask := range 20 {
				shards, _ := cairn.Shards(data)
				if got, err := cairn.Whole(shards, places(everyPlace^mask)); ones(places(mask)) <= 3 && (got != data || err != api.OK) {
					t.Errorf("P2: calls at once: Whole of %d bytes: %d bytes, %d", len(data), len(got), err)
				}
			}
		}()
	}
	all.Wait()
}

func TestP12FourShardsDiffer(t *testing.T) {
	for _, data := range []string{"a", "hi", "abcd", "five!", "twelve bytes"} {
		shards := mustShards(t, data)
		for i := range len(data) {
			for x := 1; x < 256; x++ {
				other := data[:i] + string([]byte{data[i] ^ byte(x)}) + data[i+1:]
				n := 0
				for j, shard := range mustShards(t, other) {
					if shard != shards[j] {
						n++
					}
				}
				if n < 4 {
					t.Fatalf("P12: %d shards of %q and %q differ, want at least 4", n, data, other)
				}
			}
		}
	}
}
