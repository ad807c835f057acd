package edns

import (
	"slices"
	"strings"
	"testing"

	"hearsay/api"
)

func TestOptions(t *testing.T) { // P7.5
	for _, x := range []struct {
		s       string
		numbers []uint16
		bytes   []string
	}{
		{"", nil, nil},
		{"\x00\x00\x00\x00", []uint16{0}, []string{""}},
		{"\x00\x03\x00\x01a", []uint16{3}, []string{"a"}},
		{"\xff\xfe\x00\x02ab", []uint16{65534}, []string{"ab"}},
		{"\x00\x03\x00\x01a\x00\x03\x00\x01a", []uint16{3, 3}, []string{"a", "a"}},
		{"\x00\x09\x00\x00\x01\x00\x00\x02bc\x00\x05\x00\x00", []uint16{9, 256, 5}, []string{"", "bc", ""}},
		{"\x00\x03\x00\x05\x00\x04\x00\x01x", []uint16{3}, []string{"\x00\x04\x00\x01x"}},
		{"\x00\x03\x01\x00" + strings.Repeat("x", 256) + "\x00\x01\x00\x00", []uint16{3, 1}, []string{strings.Repeat("x", 256), ""}},
		{"\x00\x03\xff\xff" + strings.Repeat("x", 65535), []uint16{3}, []string{strings.Repeat("x", 65535)}},
		{"\x00\x03\xff\xff" + strings.Repeat("x", 65535) + "\x00\x04\x00\x01y", []uint16{3, 4}, []string{strings.Repeat("x", 65535), "y"}},
		{strings.Repeat("\x00\x07\x00\x00", 70000), slices.Repeat([]uint16{7}, 70000), make([]string, 70000)},
	} {
		n, b, is := Options(x.s)
		if !slices.Equal(n, x.numbers) || !slices.Equal(b, x.bytes) || !is {
			t.Errorf("Options(%.40q) = %.40v, %.40q, %v", x.s, n, b, is)
		}
	}
}

func TestOptionsThatMayNotBe(t *testing.T) { // P7.5
	for _, s := range wrongOptions() {
		if n, b, is := Options(s); len(n) != 0 || len(b) != 0 || is {
			t.Errorf("Options(%.40q) = %.40v, %.40q, %v", s, n, b, is)
		}
	}
}

func TestOptionsInNewMemory(t *testing.T) { // P7.5, R3
	const s = "\x00\x09\x00\x00\x01\x00\x00\x02bc\x00\x05\x00\x00"
	n, b, _ := Options(s)
	spoil(n, 77)
	spoil(b, "spoilt")
	if n, b, is := Options(s); !slices.Equal(n, []uint16{9, 256, 5}) || !slices.Equal(b, []string{"", "bc", ""}) || !is {
		t.Errorf("Options = %v, %q, %v", n, b, is)
	}
}

// read are the options that stand one behind the other, as the chapter's words say it; false, if something is left over.
func read(s string) ([]uint16, []string, bool) {
	if s == "" {
		return nil, nil, true
	}
	if len(s) < 4 || len(s) < 4+int(s[2])*256+int(s[3]) {
		return nil, nil, false
	}
	size := int(s[2])*256 + int(s[3])
	n, b, is := read(s[4+size:])
	if !is {
		return nil, nil, false
	}
	return append([]uint16{uint16(s[0])*256 + uint16(s[1])}, n...), append([]string{s[4 : 4+size]}, b...), true
}

// holds asks all calls about any bytes, and tells what of their promises does not hold.
func holds(t *testing.T, s string) {
	t.Helper()
	n, b, is := Options(s)
	if numbers, bytes, may := read(s); is != may || !slices.Equal(n, numbers) || !slices.Equal(b, bytes) {
		t.Errorf("Options(%q) = %v, %q, %v, not %v, %q, %v", s, n, b, is, numbers, bytes, may)
	}
	said := api.Edns{Size: 9, Options: s}
	r, e := Record(said)
	if may := is && len(s) <= 65535; may != (e == api.OK) || may && r != opt(9, 0, s) || !may && (e != api.ErrOpt || r != (api.Record{})) {
		t.Errorf("Record of the options %q = %v, %v", s, r, e)
	}
	found, has, e := Find(extra(opt(9, 0, s)))
	if has != is || is && (found != said || e != api.OK) || !is && (found != (api.Edns{}) || e != api.ErrOpt) {
		t.Errorf("Find of the options %q = %v, %v, %v", s, found, has, e)
	}
}

func TestOptionsOfAnyBytes(t *testing.T) { // P7.1, P7.2, P7.5, P7.6
	const some = "\x00\x01\x02\xff"
	for size := range 10 {
		for i := range 1 << (2 * size) {
			s := make([]byte, size)
			for k := range s {
				s[k] = some[i>>(2*k)&3]
			}
			holds(t, string(s))
		}
	}
}

// FuzzOptions asks about any bytes.
func FuzzOptions(f *testing.F) {
	f.Add("")
	f.Add("\x00\x03\x00\x01a\x00\x04\x00\x00")
	f.Add("\x00\x03\x00\x02a")
	f.Fuzz(func(t *testing.T, s string) { holds(t, s) })
}
