package shelf

import (
	"errors"
	"slices"
	"strconv"
	"strings"
	"testing"

	"cairn/api"
)

// gaveUp tells what Unpack gave up with; nil: it did not.
func gaveUp(data string) (why error) {
	defer func() {
		if v := recover(); v != nil {
			why = v.(error)
		}
	}()
	Unpack(data)
	return nil
}

func TestPack(t *testing.T) {
	var s Shelf
	if s.Pack() != "" {
		t.Errorf("the pack of no keys is %q", s.Pack())
	}
	s.Put("b", "two")
	s.Put("c", "")
	s.Put("a", "gone")
	s.Delete("a")
	s.Put("12345678", strings.Repeat("x", 200))
	if want := "\x0812345678\xc8" + strings.Repeat("x", 200) + "\x01a\xc9\x01b\x03two\x01c\x00"; s.Pack() != want {
		t.Errorf("the pack is %q, want %q", s.Pack(), want)
	}
	got := Unpack(s.Pack())
	if !slices.Equal(got.entries, s.entries) {
		t.Errorf("it is read as %#v, want %#v", got.entries, s.entries)
	}
}

// A pack of all that can be used has no more bytes than that, so that shards can be made of it.
func TestPackOfFullShelves(t *testing.T) {
	for size := range api.MaxBlob + 1 {
		var s Shelf
		for i := 0; ; i++ {
			key := "key" + strconv.Itoa(10000+i)
			if s.MayPut(key, strings.Repeat("x", size)) != api.OK {
				break
			}
			s.Put(key, strings.Repeat("x", size))
			if i%5 == 4 {
				s.Delete(key)
			}
		}
		if n, used := len(s.Pack()), s.Stats().Used; n > used || used > api.MaxUsed {
			t.Errorf("with blobs of %d: the pack has %d bytes, of a shelf that uses %d", size, n, used)
		}
		if got := Unpack(s.Pack()); !slices.Equal(got.entries, s.entries) {
			t.Errorf("with blobs of %d: the pack is read as another shelf", size)
		}
	}
}

func TestUnpackGivesUp(t *testing.T) {
	full := ""
	for i := range 250 {
		full += "\x03" + strconv.Itoa(100+i) + "\x00"
	}
	for _, data := range []string{
		"\x00", "\x00\x00", "\x01", "\x01a", "\x01a\x01", "\x02a\x00", "\x01A\x00", "\x01a\x03xy",
		"\x09abcdefghi\x00", "\x01a\xca" + strings.Repeat("x", 202), "\x01a\xff", "\x01a\x00\x01a\x00", "\x01a\xc9\x01a\x00", "\x01a\x00\x01a\xc9",
		"\x01a\x00\x00", full + "\x01a\x00", full + "\x01a\xc9",
	} {
		if why := gaveUp(data); !errors.Is(why, errPack) {
			t.Errorf("Unpack(%.20q) gave up with %v, want %v", data, why, errPack)
		}
	}
	for _, data := range []string{"", full, "\x01a\x00", "\x01a\xc9", "\x01b\x00\x01a\x00"} {
		if why := gaveUp(data); why != nil {
			t.Errorf("Unpack(%.20q) gave up with %v", data, why)
		}
	}
}

func TestCloneGoesItsOwnWay(t *testing.T) {
	var s Shelf
	s.Put("b", "two")
	s.Put("d", "four")
	before := slices.Clone(s.entries)
	c := s.Clone()
	c.Delete("b")
	c.Put("a", "one")
	c.Put("c", "three")
	if !slices.Equal(s.entries, before) {
		t.Errorf("the shelf became %#v with its clone, was %#v", s.entries, before)
	}
	if len(c.entries) != 4 {
		t.Errorf("the clone has %#v", c.entries)
	}
}

func TestChanges(t *testing.T) {
	var s Shelf
	for i := range 250 {
		if s.Changes() != 2*i {
			t.Fatalf("%d changes, want %d", s.Changes(), 2*i)
		}
		s.Put(strconv.Itoa(i), "")
		if s.Changes() != 2*i+1 {
			t.Fatalf("%d changes, want %d", s.Changes(), 2*i+1)
		}
		s.Delete(strconv.Itoa(i))
	}
}
