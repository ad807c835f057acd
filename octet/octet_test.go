package octet

import (
	"bytes"
	"math"
	"strings"
	"testing"

	"hearsay/api"
)

// roomy are these bytes, with room behind their end that is filled with 0xee; all of it is handed out, too.
func roomy(s string) (b, all []byte) {
	all = append([]byte(s), bytes.Repeat([]byte{0xee}, 300)...)
	return all[:len(s)], all
}

// ownMemory asks a call for what it puts behind b, twice, and tells whether b, the room behind it and an earlier answer stay as they are, whatever is written to the answers.
func ownMemory(t *testing.T, what string, put func(b []byte) []byte) {
	t.Helper()
	for _, s := range []string{"", "\x07", "\x07\x08\x09"} {
		b, all := roomy(s)
		before := bytes.Clone(all)
		first, second := put(b), put(b)
		if !bytes.Equal(all, before) {
			t.Errorf("%s behind %q changed it, or the room behind it", what, s)
		}
		if cap(first) != len(first) {
			t.Errorf("%s behind %q: %d bytes, with room for %d", what, s, len(first), cap(first))
		}
		want := bytes.Clone(second)
		first = first[:cap(first)]
		for i := range first {
			first[i] ^= 0xff
		}
		if !bytes.Equal(all, before) || !bytes.Equal(second, want) {
			t.Errorf("%s behind %q: the answer shares memory", what, s)
		}
		for i := range all {
			all[i] ^= 0xff
		}
		if !bytes.Equal(second, want) {
			t.Errorf("%s behind %q: what is written to it is seen in the answer", what, s)
		}
	}
}

func TestPut(t *testing.T) { // P2.1
	for _, x := range []struct {
		b    string
		v    uint8
		want string
	}{{"", 0, "\x00"}, {"", 9, "\x09"}, {"\x07", 128, "\x07\x80"}, {"ab", 255, "ab\xff"}} {
		if b := Put([]byte(x.b), x.v); string(b) != x.want {
			t.Errorf("Put(%q, %d) of 8 bits = % x", x.b, x.v, b)
		}
	}
	for _, x := range []struct {
		b    string
		v    uint16
		want string
	}{{"\x07", 513, "\x07\x02\x01"}, {"", 0, "\x00\x00"}, {"", 1, "\x00\x01"}, {"", 255, "\x00\xff"}, {"", 256, "\x01\x00"}, {"ab", 65535, "ab\xff\xff"}} {
		if b := Put([]byte(x.b), x.v); string(b) != x.want {
			t.Errorf("Put(%q, %d) of 16 bits = % x", x.b, x.v, b)
		}
	}
	for _, x := range []struct {
		b    string
		v    uint32
		want string
	}{{"", 1, "\x00\x00\x00\x01"}, {"", 0, "\x00\x00\x00\x00"}, {"\x07", 0x01020304, "\x07\x01\x02\x03\x04"}, {"ab", math.MaxUint32, "ab\xff\xff\xff\xff"}, {"", 1 << 31, "\x80\x00\x00\x00"}, {"", 1 << 16, "\x00\x01\x00\x00"}} {
		if b := Put([]byte(x.b), x.v); string(b) != x.want {
			t.Errorf("Put(%q, %d) of 32 bits = % x", x.b, x.v, b)
		}
	}
	if b := Put(nil, uint8(9)); string(b) != "\x09" {
		t.Errorf("behind nil: % x", b)
	}
	if b := Put(make([]byte, 70000), uint16(513)); len(b) != 70002 || string(b[69999:]) != "\x00\x02\x01" {
		t.Errorf("behind 70000 bytes: %d bytes", len(b))
	}
}

func TestPutHasItsOwnMemory(t *testing.T) { // P2.1
	ownMemory(t, "8 bits", func(b []byte) []byte { return Put(b, uint8(1)) })
	ownMemory(t, "16 bits", func(b []byte) []byte { return Put(b, uint16(513)) })
	ownMemory(t, "32 bits", func(b []byte) []byte { return Put(b, uint32(0x01020304)) })
	ownMemory(t, "a number behind a number", func(b []byte) []byte { return Put(Put(b, uint32(1)), uint16(2)) })
}

// places are an at, and what is answered there.
type places[T any] []struct {
	at, to int
	v      T
	e      api.Errno
}

// takes asks Take for numbers of one type at these places of these bytes.
func takes[T uint8 | uint16 | uint32](t *testing.T, s string, l places[T]) {
	t.Helper()
	b, all := roomy(s)
	before := bytes.Clone(all)
	for _, x := range l {
		if v, to, e := Take[T](b, x.at); v != x.v || to != x.to || e != x.e {
			t.Errorf("Take(%q, %d) of type %T = %d, %d, %v", s, x.at, v, v, to, e)
		}
	}
	if !bytes.Equal(all, before) {
		t.Errorf("Take changed %q", s)
	}
}

func TestTake(t *testing.T) { // P2.1
	takes(t, "\x07\x02\x01", places[uint16]{
		{1, 3, 513, api.OK}, {0, 2, 0x0702, api.OK}, {2, 0, 0, api.ErrShort}, {3, 0, 0, api.ErrShort},
		{4, 0, 0, api.ErrArg}, {5, 0, 0, api.ErrArg}, {-1, 0, 0, api.ErrArg}, {-2, 0, 0, api.ErrArg}, {math.MinInt, 0, 0, api.ErrArg}, {math.MaxInt, 0, 0, api.ErrArg},
	})
	takes(t, "\x80\xff", places[uint8]{
		{0, 1, 128, api.OK}, {1, 2, 255, api.OK}, {2, 0, 0, api.ErrShort},
		{3, 0, 0, api.ErrArg}, {-1, 0, 0, api.ErrArg}, {math.MinInt, 0, 0, api.ErrArg}, {math.MaxInt, 0, 0, api.ErrArg},
	})
	takes(t, "\x01\x02\x03\xff\xfe\xfd", places[uint32]{
		{0, 4, 0x010203ff, api.OK}, {2, 6, 0x03fffefd, api.OK}, {3, 0, 0, api.ErrShort}, {4, 0, 0, api.ErrShort}, {5, 0, 0, api.ErrShort}, {6, 0, 0, api.ErrShort},
		{7, 0, 0, api.ErrArg}, {-4, 0, 0, api.ErrArg}, {math.MinInt, 0, 0, api.ErrArg}, {math.MaxInt, 0, 0, api.ErrArg}, {math.MaxInt - 3, 0, 0, api.ErrArg},
	})
	takes(t, "", places[uint8]{{0, 0, 0, api.ErrShort}, {1, 0, 0, api.ErrArg}, {-1, 0, 0, api.ErrArg}})
	takes(t, "", places[uint32]{{0, 0, 0, api.ErrShort}, {1, 0, 0, api.ErrArg}, {-1, 0, 0, api.ErrArg}})
	takes(t, "\xff\xff\xff\xff", places[uint32]{{0, 4, math.MaxUint32, api.OK}, {1, 0, 0, api.ErrShort}})
	if v, to, e := Take[uint16](nil, 0); v != 0 || to != 0 || e != api.ErrShort {
		t.Errorf("of nil: %d, %d, %v", v, to, e)
	}
}

func TestPutText(t *testing.T) { // P2.2
	for _, x := range []struct{ b, s, want string }{
		{"", "ab", "\x02ab"}, {"", "", "\x00"}, {"x", "", "x\x00"}, {"\x07", "a", "\x07\x01a"}, {"ab", "\x00\xff\x80", "ab\x03\x00\xff\x80"},
		{"", strings.Repeat("a", 254), "\xfe" + strings.Repeat("a", 254)},
		{"b", strings.Repeat("a", 255), "b\xff" + strings.Repeat("a", 255)},
	} {
		if b, e := PutText([]byte(x.b), x.s); e != api.OK || string(b) != x.want {
			t.Errorf("PutText(%q, %.20q) = %.20q, %v", x.b, x.s, b, e)
		}
	}
	if b, e := PutText(nil, "a"); e != api.OK || string(b) != "\x01a" {
		t.Errorf("behind nil: %q, %v", b, e)
	}
	for _, n := range []int{256, 257, 511, 512, 65536, 70000} {
		b, all := roomy("\x07")
		before := bytes.Clone(all)
		if out, e := PutText(b, strings.Repeat("a", n)); e != api.ErrLong || len(out) != 0 {
			t.Errorf("of %d bytes: %d bytes, %v", n, len(out), e)
		}
		if !bytes.Equal(all, before) {
			t.Errorf("of %d bytes: it is refused, and something was changed", n)
		}
	}
}

func TestPutTextHasItsOwnMemory(t *testing.T) { // P2.2
	for _, s := range []string{"", "a", "ab", strings.Repeat("a", 255)} {
		ownMemory(t, "a text", func(b []byte) []byte {
			out, e := PutText(b, s)
			if e != api.OK {
				t.Fatalf("PutText(%.20q): %v", s, e)
			}
			return out
		})
	}
}

func TestTakeText(t *testing.T) { // P2.2
	for _, x := range []struct {
		b    string
		at   int
		s    string
		to   int
		e    api.Errno
		what string
	}{
		{"\x02ab", 0, "ab", 3, api.OK, "a text"},
		{"\x02a", 0, "", 0, api.ErrShort, "one byte too few"},
		{"\x02", 0, "", 0, api.ErrShort, "no byte behind"},
		{"", 0, "", 0, api.ErrShort, "no byte at all"},
		{"\x00", 0, "", 1, api.OK, "no bytes"},
		{"\x00", 1, "", 0, api.ErrShort, "at the end"},
		{"\x00", 2, "", 0, api.ErrArg, "past the end"},
		{"\x00", -1, "", 0, api.ErrArg, "ahead of the beginning"},
		{"", 1, "", 0, api.ErrArg, "past the end of nothing"},
		{"\x02ab", math.MaxInt, "", 0, api.ErrArg, "far past the end"},
		{"\x02ab", math.MinInt, "", 0, api.ErrArg, "far ahead of the beginning"},
		{"xy\x01\xffz", 2, "\xff", 4, api.OK, "in the middle"},
		{"\x03a\x00b\x01c", 0, "a\x00b", 4, api.OK, "with a byte 0"},
		{"\x03a\x00b\x01c", 4, "c", 6, api.OK, "the second one"},
		{"\xff" + strings.Repeat("a", 255), 0, strings.Repeat("a", 255), 256, api.OK, "255 bytes"},
		{"\xff" + strings.Repeat("a", 254), 0, "", 0, api.ErrShort, "254 of 255 bytes"},
		{"\x80" + strings.Repeat("a", 128), 0, strings.Repeat("a", 128), 129, api.OK, "128 bytes"},
	} {
		b, all := roomy(x.b)
		before := bytes.Clone(all)
		s, to, e := TakeText(b, x.at)
		if !bytes.Equal(all, before) {
			t.Errorf("%s: TakeText changed what came", x.what)
		}
		for i := range all {
			all[i] = 'x'
		}
		if s != x.s || to != x.to || e != x.e {
			t.Errorf("%s: TakeText(%.20q, %d) = %.20q, %d, %v", x.what, x.b, x.at, s, to, e)
		}
	}
	if s, to, e := TakeText(nil, 0); s != "" || to != 0 || e != api.ErrShort {
		t.Errorf("of nil: %q, %d, %v", s, to, e)
	}
}

func TestLater(t *testing.T) { // P2.3
	for _, x := range []struct {
		a, b uint32
		is   bool
	}{
		{1, 2, true}, {2, 1, false}, {math.MaxUint32, 0, true}, {0, math.MaxUint32, false}, {0, 0, false}, {math.MaxUint32, math.MaxUint32, false},
		{0, 1<<31 - 1, true}, {0, 1 << 31, false}, {0, 1<<31 + 1, false}, {1 << 31, 0, false}, {1<<31 + 1, 0, true}, {1<<31 - 1, 0, false},
		{7, 7 + 1<<31 - 1, true}, {7, 7 + 1<<31, false}, {1<<31 - 1, 1 << 31, true}, {1 << 31, 1<<31 - 1, false}, {math.MaxUint32 - 1, 1<<31 - 3, true}, {math.MaxUint32 - 1, 1<<31 - 2, false},
	} {
		if Later(x.a, x.b) != x.is {
			t.Errorf("Later(%d, %d) is not %v", x.a, x.b, x.is)
		}
	}
}

func TestStep(t *testing.T) { // P2.3
	for _, x := range []struct {
		a    uint32
		n    int
		want uint32
	}{
		{math.MaxUint32, 2, 1}, {0, -1, math.MaxUint32}, {5, 0, 5}, {5, 3, 8}, {5, -3, 2}, {5, -6, math.MaxUint32}, {math.MaxUint32, 1, 0},
		{7, 1 << 32, 7}, {7, -1 << 32, 7}, {7, 1<<32 + 1, 8}, {7, 1<<32 - 1, 6}, {7, 3<<32 - 8, math.MaxUint32}, {0, 1 << 31, 1 << 31}, {0, -1 << 31, 1 << 31},
		{9, math.MaxInt, 8}, {9, math.MinInt, 9}, {9, math.MinInt + 1, 10}, {math.MaxUint32, math.MaxInt, math.MaxUint32 - 1},
	} {
		if got := Step(x.a, x.n); got != x.want {
			t.Errorf("Step(%d, %d) = %d, not %d", x.a, x.n, got, x.want)
		}
	}
}

// numbers are some of 32 bits, those at the edges among them.
func numbers() []uint32 {
	l := []uint32{0, 1, 2, 7, 127, 128, 254, 255, 256, 257, 513, 65534, 65535, 65536, 1<<24 - 1, 1 << 24, 0x01020304, 0xfffefdfc}
	for _, n := range []uint32{1 << 30, 1 << 31, 3 << 30, 0} {
		l = append(l, n-2, n-1, n, n+1, n+2)
	}
	return l
}

// reads asks whether what Put wrote of v, between other bytes, is read as v.
func reads[T uint8 | uint16 | uint32](t *testing.T, v T, width int) {
	t.Helper()
	for _, front := range []string{"", "\xff", "abc"} {
		b := Put([]byte(front), v)
		if len(b) != len(front)+width || string(b[:len(front)]) != front {
			t.Errorf("Put(%q, %d) of type %T = % x", front, v, v, b)
		}
		got, to, e := Take[T](append(b, 0xee), len(front))
		if got != v || to != len(b) || e != api.OK {
			t.Errorf("Take of what Put wrote of %d, of type %T: %d, %d, %v", v, v, got, to, e)
		}
	}
}

func TestTakeOfPut(t *testing.T) { // P2.4
	for _, v := range numbers() {
		reads(t, v, 4)
	}
	for v := range 1 << 16 {
		reads(t, uint16(v), 2)
	}
	for v := range 1 << 8 {
		reads(t, uint8(v), 1)
	}
}

func TestTakeTextOfPutText(t *testing.T) { // P2.4
	for n := range 256 {
		s := strings.Repeat(string([]byte{byte(n)}), n)
		for _, front := range []string{"", "\xff", "abc"} {
			b, e := PutText([]byte(front), s)
			if e != api.OK || !strings.HasPrefix(string(b), front) {
				t.Fatalf("PutText(%q, %d bytes): %v", front, n, e)
			}
			if got, to, e := TakeText(append(b, 0xee), len(front)); got != s || to != len(b) || e != api.OK {
				t.Errorf("TakeText of what PutText wrote of %d bytes: %d bytes, %d, %v", n, len(got), to, e)
			}
		}
	}
}

func TestWhatFollowsOfLater(t *testing.T) { // P2.4
	for _, a := range numbers() {
		if Later(a, a) {
			t.Errorf("%d is later than itself", a)
		}
		for _, b := range numbers() {
			one, other := Later(a, b), Later(b, a)
			if one && other {
				t.Errorf("%d and %d: each is later than the other one", a, b)
			}
			if apart := a == b || a-b == 1<<31; (one || other) == apart {
				t.Errorf("Later(%d, %d) is %v, and the other way round %v", a, b, one, other)
			}
		}
	}
}

func TestWhatFollowsOfStep(t *testing.T) { // P2.4
	for _, a := range numbers() {
		for _, n := range numbers() {
			if is := 1 <= n && n <= 1<<31-1; Later(a, Step(a, int(n))) != is {
				t.Errorf("whether Step(%d, %d) is later is not %v", a, n, is)
			}
			if back := Step(Step(a, int(n)), -int(n)); back != a {
				t.Errorf("%d, %d steps on and back: %d", a, n, back)
			}
		}
	}
}

// FuzzBytes asks every call about any bytes: none panics, none changes what came, and what is read, written again, is what stood there.
func FuzzBytes(f *testing.F) {
	f.Add([]byte("\x02ab"), 0, "ab")
	f.Add([]byte("\x02a"), 1, "")
	f.Add([]byte{}, -1, strings.Repeat("a", 256))
	f.Fuzz(func(t *testing.T, b []byte, at int, s string) {
		before := bytes.Clone(b)
		if v, to, e := Take[uint8](b, at); e == api.OK && string(Put(nil, v)) != string(b[at:to]) || e != api.OK && (v != 0 || to != 0) {
			t.Errorf("8 bits at %d: %d, %d, %v", at, v, to, e)
		}
		if v, to, e := Take[uint16](b, at); e == api.OK && string(Put(nil, v)) != string(b[at:to]) || e != api.OK && (v != 0 || to != 0) {
			t.Errorf("16 bits at %d: %d, %d, %v", at, v, to, e)
		}
		if v, to, e := Take[uint32](b, at); e == api.OK && string(Put(nil, v)) != string(b[at:to]) || e != api.OK && (v != 0 || to != 0) {
			t.Errorf("32 bits at %d: %d, %d, %v", at, v, to, e)
		}
		if text, to, e := TakeText(b, at); e != api.OK && (text != "" || to != 0) {
			t.Errorf("a text at %d: %q, %d, %v", at, text, to, e)
		} else if again, _ := PutText(nil, text); e == api.OK && string(again) != string(b[at:to]) {
			t.Errorf("a text at %d: %q, %d", at, text, to)
		}
		if out, e := PutText(b, s); (e == api.OK) != (len(s) <= 255) || e != api.OK && len(out) != 0 {
			t.Errorf("PutText of %d bytes: %d bytes, %v", len(s), len(out), e)
		} else if text, to, late := TakeText(out, len(b)); e == api.OK && (text != s || to != len(out) || late != api.OK) {
			t.Errorf("TakeText of what PutText wrote of %q: %q, %d, %v", s, text, to, late)
		}
		if !bytes.Equal(b, before) {
			t.Errorf("% x became % x", before, b)
		}
	})
}
