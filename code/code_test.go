package code

import (
	"errors"
	"slices"
	"strings"
	"testing"

	"cairn/api"
)

// gaveUp tells what a function gave up with; nil: it did not.
func gaveUp(f func()) (why error) {
	defer func() {
		if v := recover(); v != nil {
			why = v.(error)
		}
	}()
	f()
	return nil
}

func TestFrame(t *testing.T) {
	for _, c := range []struct{ data, frame string }{
		{"", "\x00\x00\x00\x00\x00\x00"},
		{"hi", "\x02\x00hi\x00\x00"},
		{"four", "\x04\x00four"},
		{"five!", "\x05\x00five!\x00\x00\x00\x00\x00"},
		{strings.Repeat("x", 258), "\x02\x01" + strings.Repeat("x", 258) + "\x00\x00\x00\x00"},
	} {
		if got := string(frame(c.data)); got != c.frame {
			t.Errorf("frame(%.10q) = %q, want %q", c.data, got, c.frame)
		}
	}
	for n := range api.MaxData + 1 {
		data := strings.Repeat("\x80", n)
		framed := frame(data)
		if len(framed)%6 != 0 || len(framed) < n+2 || len(framed) >= n+8 {
			t.Fatalf("the frame of %d bytes has %d", n, len(framed))
		}
		if got := unframe(framed); got != data {
			t.Fatalf("the frame of %d bytes is read as %d bytes", n, len(got))
		}
	}
}

func TestUnframeGivesUp(t *testing.T) {
	for _, f := range []string{
		"", "\x00",
		"\x00\x00\x00\x00\x00\x01",
		"\x05\x00abcd",
		"\xff\xffabcd",
		"\x03\x00abcd",
		"\x04\x00abcd\x00\x00\x00\x00\x00\x00",
		"\x41\x1f" + strings.Repeat("x", 8001) + "\x00",
		"\x42\x1f" + strings.Repeat("x", 8002),
	} {
		if why := gaveUp(func() { unframe([]byte(f)) }); !errors.Is(why, errFrame) {
			t.Errorf("unframe(%.20q) gave up with %v, want %v", f, why, errFrame)
		}
	}
}

func TestJoinGivesUp(t *testing.T) {
	all := slices.Repeat([]bool{true}, api.All)
	good := Split("some bytes")
	with := func(j int, shard string) []string {
		out := slices.Clone(good)
		out[j] = shard
		return out
	}
	for _, c := range []struct {
		name   string
		shards []string
		why    error
	}{
		{"shards without bytes", make([]string, api.All), errLength},
		{"shards that are too long", slices.Repeat([]string{strings.Repeat("x", 1335)}, api.All), errLength},
		{"a first shard that is longer", with(0, good[0]+"\x00"), errLength},
		{"a last shard that is shorter", with(8, ""), errLength},
		{"a first shard that is another", with(0, "zz"), errShard},
		{"a last shard that is another", with(8, "zz"), errShard},
		{"a frame whose number is too great", slices.Repeat([]string{"z"}, api.All), errFrame},
	} {
		if why := gaveUp(func() { Join(c.shards, all) }); !errors.Is(why, c.why) {
			t.Errorf("Join of %s gave up with %v, want %v", c.name, why, c.why)
		}
	}
	if why := gaveUp(func() { Join(good, all) }); why != nil {
		t.Errorf("Join of good shards gave up with %v", why)
	}
}
