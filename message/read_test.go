package message

import (
	"bytes"
	"slices"
	"strings"
	"testing"

	"hearsay/api"
)

// count is the head of a message with so many questions and records.
func count(questions, answer, authority, extra int) string {
	b := make([]byte, 4, 12)
	for _, n := range []int{questions, answer, authority, extra} {
		b = append(b, byte(n>>8), byte(n))
	}
	return string(b)
}

func TestUnpackOfPack(t *testing.T) { // P6.2, P6.5
	for _, m := range []api.Message{{}, question(), full(), {ID: 65535, Reply: true, Opcode: 15, AA: true, TC: true, RD: true, RA: true, Z: 7, Rcode: 15}} {
		b, e := Pack(m)
		if e != api.OK {
			t.Fatal(e)
		}
		if back, e := Unpack(b); e != api.OK || !same(back, m) {
			t.Errorf("Unpack = %v, %v", back, e)
		}
		for n := range b {
			if back, e := Unpack(b[:n:n]); e != api.ErrShort || !empty(back) {
				t.Errorf("Unpack of %d of %d bytes = %v, %v", n, len(b), back, e)
			}
			// What stands in the room behind the end is not read.
			if back, e := Unpack(b[:n]); e != api.ErrShort || !empty(back) {
				t.Errorf("Unpack of %d of %d bytes that are there = %v, %v", n, len(b), back, e)
			}
		}
		for _, more := range []string{"\x00", "\xff", "\x01a\x00\x00\x01\x00\x01"} {
			if back, e := Unpack(append(slices.Clone(b), more...)); e != api.ErrTail || !empty(back) {
				t.Errorf("Unpack with %q behind = %v, %v", more, back, e)
			}
		}
	}
	if m, e := Unpack(nil); e != api.ErrShort || !empty(m) {
		t.Errorf("Unpack of nil = %v, %v", m, e)
	}
}

func TestUnpackFlags(t *testing.T) { // P6.2, P6.3, P6.5
	for flags := range 1 << 16 {
		b := []byte(count(0, 0, 0, 0))
		b[0], b[1], b[2], b[3] = 0xfe, 0xdc, byte(flags>>8), byte(flags)
		bit := func(n int) bool { return flags>>n&1 == 1 }
		want := api.Message{ID: 0xfedc, Reply: bit(15), Opcode: uint8(flags >> 11 & 15), AA: bit(10), TC: bit(9), RD: bit(8), RA: bit(7), Z: uint8(flags >> 4 & 7), Rcode: uint8(flags & 15)}
		m, e := Unpack(b)
		h, e2 := Head(b)
		if e != api.OK || e2 != api.OK || !same(m, want) || !same(h, want) {
			t.Fatalf("flags %04x: %v, %v; %v, %v", flags, m, e, h, e2)
		}
		if again, e := Pack(m); e != api.OK || !bytes.Equal(again, b) {
			t.Fatalf("flags %04x: % x, %v", flags, again, e)
		}
	}
}

func TestHead(t *testing.T) { // P6.3
	b, _ := Pack(full())
	want := full()
	want.Questions, want.Answer, want.Authority, want.Extra = nil, nil, nil, nil
	for _, more := range []string{string(b), string(b[:12]), string(b[:13]), string(b[:4]) + strings.Repeat("\xff", 8), string(b[:4]) + strings.Repeat("\xff", 70000)} {
		if h, e := Head([]byte(more)); e != api.OK || !same(h, want) {
			t.Errorf("Head of %d bytes = %v, %v", len(more), h, e)
		}
	}
	for n := range 12 {
		if h, e := Head(b[:n]); e != api.ErrShort || !empty(h) {
			t.Errorf("Head of %d bytes = %v, %v", n, h, e)
		}
	}
	if h, e := Head(nil); e != api.ErrShort || !empty(h) {
		t.Errorf("Head of nil = %v, %v", h, e)
	}
}

func TestUnpackRefuses(t *testing.T) { // P6.2
	const asked, number10 = "\x00\x01\x00\x01", "\x00\x01\x00\x01\x00\x00\x00\x09\x00\x04"
	const ns = "\x00\x02\x00\x01\x00\x00\x00\x09\x00"
	for _, x := range []struct {
		b string
		e api.Errno
	}{
		{count(0, 0, 0, 0)[:11], api.ErrShort},
		// The numbers.
		{count(4097, 0, 0, 0), api.ErrLong}, {count(0, 4097, 0, 0), api.ErrLong}, {count(0, 0, 4097, 0), api.ErrLong}, {count(0, 0, 0, 4097), api.ErrLong},
		{count(65535, 65535, 65535, 65535), api.ErrLong}, {count(1, 0, 0, 4097) + "\x40", api.ErrLong}, {count(0, 0, 0, 65535) + "x", api.ErrLong},
		{count(4096, 0, 0, 0), api.ErrShort}, {count(0, 4096, 0, 0), api.ErrShort}, {count(0, 0, 4096, 0), api.ErrShort}, {count(0, 0, 0, 4096), api.ErrShort},
		{count(4096, 0, 0, 0) + strings.Repeat("\x00\x00\x00\x00\x00", 4096), api.OK},
		{count(0, 0, 0, 4096) + strings.Repeat("\x00\x00\x00\x00\x00\x00\x00\x00\x00\x00\x00", 4096), api.OK},
		// More bytes than may be, ahead of what they tell.
		{count(0, 0, 0, 0) + strings.Repeat("x", 65535-11), api.ErrLong}, {count(0, 0, 0, 0) + strings.Repeat("x", 65535-12), api.ErrTail},
		{count(1, 0, 0, 0) + "\x40" + strings.Repeat("x", 65535), api.ErrLong}, {count(1, 0, 0, 0) + "\x40" + strings.Repeat("x", 60000), api.ErrKind},
		// Questions.
		{count(1, 0, 0, 0), api.ErrShort}, {count(1, 0, 0, 0) + "\x01a", api.ErrShort}, {count(1, 0, 0, 0) + "\x01a\x00", api.ErrShort}, {count(1, 0, 0, 0) + "\x01a\x00\x00\x01\x00", api.ErrShort},
		{count(1, 0, 0, 0) + "\x01a\x00" + asked, api.OK}, {count(2, 0, 0, 0) + "\x01a\x00" + asked, api.ErrShort}, {count(1, 0, 0, 0) + "\x01a\x00" + asked + "x", api.ErrTail},
		{count(1, 0, 0, 0) + "\x40" + asked, api.ErrKind}, {count(1, 0, 0, 0) + "\xbf", api.ErrKind}, {count(1, 0, 0, 0) + "\xc0\x0c" + asked, api.ErrPointer}, {count(1, 0, 0, 0) + "\x01a\xc0\x0c" + asked, api.ErrPointer},
		{count(1, 0, 0, 0) + "\xc0\xff", api.ErrPointer}, {count(1, 0, 0, 0) + "\xc0", api.ErrShort},
		{count(1, 0, 0, 0) + "\xc0\x0b" + asked, api.OK}, // into the head: a byte 0
		{count(1, 0, 0, 0) + strings.Repeat("\x01a", 127) + "\x00" + asked, api.OK}, {count(1, 0, 0, 0) + strings.Repeat("\x01a", 128) + "\x00" + asked, api.ErrLong},
		{count(2, 0, 0, 0) + "\x01a\x00" + asked + "\x01b\xc0\x0c" + asked, api.OK},
		// Records.
		{count(0, 1, 0, 0), api.ErrShort}, {count(0, 1, 0, 0) + "\x40", api.ErrKind}, {count(0, 0, 1, 0) + "\xc0\x0c", api.ErrPointer}, {count(0, 0, 0, 1) + "\x01", api.ErrShort},
		{count(0, 1, 0, 0) + "\x01a\x00" + number10[:9], api.ErrShort}, {count(0, 1, 0, 0) + "\x01a\x00" + number10, api.ErrShort}, {count(0, 1, 0, 0) + "\x01a\x00" + number10 + "123", api.ErrShort},
		{count(0, 1, 0, 0) + "\x01a\x00" + number10 + "1234", api.OK}, {count(0, 0, 1, 0) + "\x01a\x00" + number10 + "1234", api.OK}, {count(0, 0, 0, 1) + "\x01a\x00" + number10 + "1234", api.OK},
		{count(0, 1, 0, 0) + "\x01a\x00" + number10 + "12345", api.ErrTail}, {count(0, 1, 1, 0) + "\x01a\x00" + number10 + "1234", api.ErrShort},
		{count(0, 1, 0, 0) + "\x01a\x00" + number10[:9] + "\x03123", api.ErrData}, {count(0, 1, 0, 0) + "\x01a\x00" + number10[:9] + "\x0512345", api.ErrData},
		{count(0, 1, 0, 0) + "\x01a\x00" + number10[:8] + "\xff\xff123", api.ErrShort}, // fewer bytes are left than they say, whatever they would be
		// Data: rdata's errors; their pointers lead to places in all bytes.
		{count(0, 1, 0, 0) + "\x01a\x00" + ns + "\x02\xc0\x0c", api.OK}, {count(0, 1, 0, 0) + "\x01a\x00" + ns + "\x02\xc0\x19", api.ErrPointer}, {count(0, 1, 0, 0) + "\x01a\x00" + ns + "\x01\x40", api.ErrKind},
		{count(0, 1, 0, 0) + "\x01a\x00" + ns + "\x02\x01a", api.ErrShort}, {count(0, 1, 0, 0) + "\x01a\x00" + ns + "\x02\x00\x00", api.ErrData}, {count(0, 1, 0, 0) + "\x01a\x00" + ns + "\x01\xc0\x0c", api.ErrData},
		{count(0, 1, 1, 0) + "\x01a\x00" + ns + "\x02\x01a" + "\x00" + number10 + "1234", api.ErrData}, // the name ends in the next record
		// As they are met: what stands ahead is told.
		{count(1, 1, 0, 0) + "\x40" + asked + "\x01a\x00" + number10[:9] + "\x03123", api.ErrKind},
		{count(0, 1, 0, 1) + "\x01a\x00" + number10[:9] + "\x03123" + "\x40", api.ErrData}, {count(0, 1, 0, 1) + "\x01a\x00" + number10 + "1234" + "\x40", api.ErrKind},
		{count(0, 1, 0, 0) + "\x01a\x00" + number10[:9] + "\x03123" + "x", api.ErrData},
	} {
		b := []byte(x.b)
		m, e := Unpack(b)
		if e != x.e || e != api.OK && !empty(m) {
			t.Errorf("Unpack(% .60x) = %v, %v, not %v", b, m, e, x.e)
		}
		if string(b) != x.b {
			t.Errorf("Unpack changed % .60x", x.b)
		}
	}
}

func TestUnpackParts(t *testing.T) { // P6.2
	b := count(1, 1, 2, 1) + "\x01a\x00\x01\x02\x03\x04" +
		"\xc0\x0c\x00\x01\x05\x06\x07\x08\x09\x0a\x00\x041234" +
		"\x01B\xc0\x0c\x00\x02\x00\x01\xff\xff\xff\xff\x00\x02\xc0\x0c" + "\x00\x00\x63\x00\x01\x00\x00\x00\x00\x00\x00" +
		"\x00\x00\x29\x10\x00\x00\x00\x80\x00\x00\x02ab"
	want := api.Message{
		Questions: []api.Question{{Name: na, Type: 0x0102, Class: 0x0304}},
		Answer:    []api.Record{{Name: na, Type: 1, Class: 0x0506, TTL: 0x0708090a, Data: api.Data{Raw: "1234"}}},
		Authority: []api.Record{{Name: "\x01B\x01a\x00", Type: 2, Class: 1, TTL: 1<<32 - 1, Data: api.Data{Host: na}}, {Name: api.Root, Type: 99, Class: 1}},
		Extra:     []api.Record{{Name: api.Root, Type: 41, Class: 4096, TTL: 0x8000, Data: api.Data{Raw: "ab"}}},
	}
	if m, e := Unpack([]byte(b)); e != api.OK || !same(m, want) {
		t.Errorf("Unpack = %v, %v", m, e)
	}
}

func TestUnpackHasItsOwnMemory(t *testing.T) { // P6.2
	b, _ := Pack(full())
	first, _ := Unpack(b)
	second, e := Unpack(b)
	for i := range b {
		b[i] ^= 0xff
	}
	questions := append(first.Questions, api.Question{})
	clear(questions[:cap(questions)])
	for _, part := range parts(&first) {
		clear((*part)[:cap(*part)])
	}
	if e != api.OK || !same(second, full()) {
		t.Errorf("what is written to the bytes, or to another answer, is seen in the answer: %v, %v", second, e)
	}
	third, _ := Unpack(wrote(full()))
	writeBehind(third)
	if !same(third, full()) {
		t.Errorf("two lists of one answer share memory")
	}
}

// again looks whether what Unpack took can be written, and is the same message then.
func again(t *testing.T, b []byte) {
	t.Helper()
	before := bytes.Clone(b)
	m, e := Unpack(b)
	if !bytes.Equal(b, before) {
		t.Fatalf("Unpack changed % x", before)
	}
	if e != api.OK {
		if !empty(m) {
			t.Errorf("% x: %v beside %v", b, m, e)
		}
		return
	}
	h, e := Head(b)
	if e != api.OK || !heads(h, m) || len(h.Questions)+len(records(h)) > 0 {
		t.Errorf("% x: Head = %v, %v", b, h, e)
	}
	out, e := Pack(m)
	if e != api.OK {
		if e != api.ErrLong || len(wrote(m)) <= 65535 {
			t.Errorf("% x: Pack of Unpack: %v", b, e)
		}
		return
	}
	if back, e := Unpack(out); e != api.OK || !same(back, m) {
		t.Errorf("% x: %v became %v, %v", b, m, back, e)
	}
}

func TestUnpackOfAnything(t *testing.T) { // P6.5
	for seed := range int64(200) {
		b := wrote(drawn(seed))
		if len(b) > 500 {
			continue
		}
		for i := range b {
			c := bytes.Clone(b)
			c[i] ^= 1 << (i % 8)
			again(t, c)
			c[i] = 0xc0
			again(t, c)
		}
	}
	// Names that take more bytes than they did: here their pointers lead behind a pointer's reach no more.
	long := count(0, 0, 0, 3000) + "\x00\x00\x63\x00\x01\x00\x00\x00\x00\x00\x20" + "\x0babcdefghijk\x0cabcdefghijkl\x00ABCDE" + strings.Repeat("\xc0\x17\x00\x63\x00\x01\x00\x00\x00\x00\x00\x00", 2999)
	again(t, []byte(long))
	huge := count(0, 0, 0, 2001) + "\x00\x00\x63\x00\x01\x00\x00\x00\x00\x40\x00" + strings.Repeat("\x0fabcdefghijklmno", 8) + "\x00" + strings.Repeat("x", 1<<14-129) + strings.Repeat("\xc0\x17\x00\x63\x00\x01\x00\x00\x00\x00\x00\x00", 2000)
	if m, e := Unpack([]byte(huge)); e != api.OK || len(m.Extra) != 2001 {
		t.Errorf("a long message: %v", e)
	} else if b, e := Pack(m); e != api.ErrLong || len(b) > 0 {
		t.Errorf("what takes more bytes than it did: %d, %v", len(b), e)
	}
}

// FuzzUnpack unpacks any bytes.
func FuzzUnpack(f *testing.F) {
	for _, m := range []api.Message{{}, question(), full(), drawn(1), drawn(2), drawn(3)} {
		f.Add(wrote(m))
	}
	f.Fuzz(again)
}
