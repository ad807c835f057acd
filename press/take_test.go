package press

import (
	"bytes"
	"math"
	"strings"
	"testing"

	"hearsay/api"
	"hearsay/name"
)

// reads are places of bytes, and what is answered there.
type reads []struct {
	b  string
	at int
	n  api.Name
	to int
	e  api.Errno
}

// takes asks Take, in bytes that have room behind their end.
func takes(t *testing.T, l reads) {
	t.Helper()
	for _, x := range l {
		all := append([]byte(x.b), bytes.Repeat([]byte{0x01, 0x00}, 200)...)
		before := bytes.Clone(all)
		n, to, e := Take(all[:len(x.b)], x.at)
		if !bytes.Equal(all, before) {
			t.Errorf("Take(%.40q, %d) changed its bytes", x.b, x.at)
		}
		for i := range all {
			all[i] = 0xee
		}
		if n != x.n || to != x.to || e != x.e {
			t.Errorf("Take(%.40q, %d) = %q, %d, %v, not %q, %d, %v", x.b, x.at, string(n), to, e, string(x.n), x.to, x.e)
		}
	}
}

func TestTake(t *testing.T) { // P3.3
	takes(t, reads{
		{"\x00", 0, api.Root, 1, api.OK},
		{"\x01a\x00", 0, "\x01a\x00", 3, api.OK},
		{"\x01a\x00", 2, api.Root, 3, api.OK},
		{"\x01a\xc0\x00", 3, api.Root, 4, api.OK},
		{"\x01a\x01b\x00\x01c\xc0\x02\x01A\xc0\x02", 0, "\x01a\x01b\x00", 5, api.OK},
		{"\x01a\x01b\x00\x01c\xc0\x02\x01A\xc0\x02", 5, "\x01c\x01b\x00", 9, api.OK},
		{"\x01a\x01b\x00\x01c\xc0\x02\x01A\xc0\x02", 9, "\x01A\x01b\x00", 13, api.OK},
		{"\x01a\x01b\x00\x01c\xc0\x02\x01A\xc0\x02", 7, "\x01b\x00", 9, api.OK},
		{"\x01a\x00\xc0\x00", 3, "\x01a\x00", 5, api.OK},
		{"\x00\xc0\x00", 1, api.Root, 3, api.OK},
		{"\x00\x01a\xc0\x00xyz", 1, "\x01a\x00", 5, api.OK},
		{"\x01c\x00\x01b\xc0\x00\x01a\xc0\x03\xc0\x07!", 7, "\x01a\x01b\x01c\x00", 11, api.OK},
		{"\x01c\x00\x01b\xc0\x00\x01a\xc0\x03\xc0\x07!", 11, "\x01a\x01b\x01c\x00", 13, api.OK},
		{"\x02\x01a\x00\xc0\x01", 4, "\x01a\x00", 6, api.OK},
		{"\x04A\x00\xc0\xff\x00", 0, "\x04A\x00\xc0\xff\x00", 6, api.OK},
		{"\x3f" + strings.Repeat("x", 63) + "\x00", 0, api.Name("\x3f" + strings.Repeat("x", 63) + "\x00"), 65, api.OK},
		{strings.Repeat("x", 300) + "\x01a\x00\xc1\x2c", 303, "\x01a\x00", 305, api.OK},
		{strings.Repeat("x", 16383) + "\x00\x01a\xff\xff", 16384, "\x01a\x00", 16388, api.OK},
		{strings.Repeat("x", 65536) + "\x01a\x00", 65536, "\x01a\x00", 65539, api.OK},
	})
}

func TestTakeRefused(t *testing.T) { // P3.3
	takes(t, reads{
		{"", 1, "", 0, api.ErrArg},
		{"", -1, "", 0, api.ErrArg},
		{"\x00", -1, "", 0, api.ErrArg},
		{"\x00", 2, "", 0, api.ErrArg},
		{"\x00", math.MaxInt, "", 0, api.ErrArg},
		{"\x00", math.MinInt, "", 0, api.ErrArg},
		{"", 0, "", 0, api.ErrShort},
		{"\x00", 1, "", 0, api.ErrShort},
		{"\x01", 0, "", 0, api.ErrShort},
		{"\x01a", 0, "", 0, api.ErrShort},
		{"\x3f" + strings.Repeat("a", 62), 0, "", 0, api.ErrShort},
		{"\x00\x02a", 1, "", 0, api.ErrShort},
		{"\xc0", 0, "", 0, api.ErrShort},
		{"\x00\xff", 1, "", 0, api.ErrShort},
		{"\x00\x01a\xc0", 1, "", 0, api.ErrShort},
		{"\x40", 0, "", 0, api.ErrKind},
		{"\x40\x00\x00", 0, "", 0, api.ErrKind},
		{"\x7f", 0, "", 0, api.ErrKind},
		{"\x80", 0, "", 0, api.ErrKind},
		{"\xbf", 0, "", 0, api.ErrKind},
		{"\x01a\x40", 0, "", 0, api.ErrKind},
		{"\x01a\xbf\x00", 0, "", 0, api.ErrKind},
		{"\xc0\x00", 0, "", 0, api.ErrPointer},
		{"\xc0\x01", 0, "", 0, api.ErrPointer},
		{"\xff\xff", 0, "", 0, api.ErrPointer},
		{"\x00\xc0\x01", 1, "", 0, api.ErrPointer},
		{"\x00\xc0\x02", 1, "", 0, api.ErrPointer},
		{"\x01a\xc0\x00", 0, "", 0, api.ErrPointer},
		{"\x01a\xc0\x01", 0, "", 0, api.ErrPointer},
		{"\x00\x01a\xc0\x01", 1, "", 0, api.ErrPointer},
	})
}

func TestTakeMeetsErrorsInOrder(t *testing.T) { // P3.3
	takes(t, reads{
		{"\x01a\xc0\x00", 2, "", 0, api.ErrPointer},              // it leads to a row that leads to itself
		{"\x01a\x01b\xc0\x02\xc0\x00", 6, "", 0, api.ErrPointer}, // back from itself, but not from its row
		{"\x00\x01a\xc0\x04\xc0\x01", 5, "", 0, api.ErrPointer},  // on, to the row that was there already
		{"\x40\xc0\x00", 1, "", 0, api.ErrKind},
		{"\x01a\x80\x00\xc0\x00", 4, "", 0, api.ErrKind},
		{"\x01\x40\xc0\x01", 2, "", 0, api.ErrKind},
		{"\x05a\xc0\x00", 2, "", 0, api.ErrShort},
		{"\x04a\xc0\x00", 2, "", 0, api.ErrShort},
		{"\x03a\xc0\x00", 2, "", 0, api.ErrShort},
		{"\xc0\x00\x05a", 2, "", 0, api.ErrShort},
		{"\xc0\x00\x01a\x40", 2, "", 0, api.ErrKind},
		{"\xc0\x00\x01a\xc0\x00", 2, "", 0, api.ErrPointer},
		{"\x01a\xc0", 0, "", 0, api.ErrShort},
		{"\x01a\xff", 0, "", 0, api.ErrShort},
	})
}

func TestTakeLong(t *testing.T) { // P3.3
	x := "\x3f" + strings.Repeat("x", 63)
	most := x + x + x + "\x3d" + strings.Repeat("y", 61)
	full := string(longest[:254])
	takes(t, reads{
		{full + "\x00", 0, longest, 255, api.OK},
		{full + "\x01a\x00", 0, "", 0, api.ErrLong},
		{full + "\x01a", 0, "", 0, api.ErrLong},
		{full + "\x01", 0, "", 0, api.ErrShort},
		{full + "\x02a", 0, "", 0, api.ErrShort},
		{full + "\x40", 0, "", 0, api.ErrKind},
		{full + "\xc0\x00", 0, "", 0, api.ErrPointer},
		{full, 0, "", 0, api.ErrShort},
		{most + "\x00", 0, api.Name(most) + api.Root, 255, api.OK},
		{x + x + x + "\x3e" + strings.Repeat("y", 62) + "\x00", 0, "", 0, api.ErrLong},
		{x + x + x + "\x3e" + strings.Repeat("y", 62), 0, "", 0, api.ErrLong},
		{x + x + x + "\x3e" + strings.Repeat("y", 61), 0, "", 0, api.ErrShort},
		{x + x + x + x + "\x00", 0, "", 0, api.ErrLong},
		{"\x01b\x01b" + full + "\x00", 0, "", 0, api.ErrLong},
		{full[2:] + "\x00\x01b\xc0\x00", 253, "\x01b" + longest[2:], 257, api.OK},
		{full + "\x00\x01b\xc0\x00", 255, "", 0, api.ErrLong},
		{full + "\x00\xc0\x00", 255, longest, 257, api.OK},
		{"\x00" + full + "\xc0\x00", 1, longest, 257, api.OK},
		{"\x01a\x00" + full + "\xc0\x00", 3, "", 0, api.ErrLong},
		{"\x40" + full + "\xc0\x00", 1, "", 0, api.ErrKind},
		{strings.Repeat("\x01a", 70000), 0, "", 0, api.ErrLong},
	})
}

// chain is a byte 0, and behind it pointers, each to the one ahead of it.
func chain(count int) []byte {
	b := []byte{0}
	to := 0
	for range count {
		b = append(b, 0xc0|byte(to>>8), byte(to))
		to = len(b) - 2
	}
	return b
}

func TestTakeThroughPointers(t *testing.T) { // P3.3, P3.4
	b := chain(8000)
	if n, to, e := Take(b, len(b)-2); n != api.Root || to != len(b) || e != api.OK {
		t.Errorf("through 8000 pointers: %q, %d, %v", string(n), to, e)
	}
	b[0] = 0x40
	if n, to, e := Take(b, len(b)-2); n != "" || to != 0 || e != api.ErrKind {
		t.Errorf("through 8000 pointers to no label: %q, %d, %v", string(n), to, e)
	}
	rows := []byte{0}
	to := 0
	for range 200 {
		next := len(rows)
		rows = append(rows, 1, 'a', 0xc0|byte(to>>8), byte(to))
		to = next
	}
	for i := range 200 {
		n, end, e := Take(rows, 1+4*i)
		if i < 127 && (n != longest[254-2*(i+1):] || end != 5+4*i || e != api.OK) || i >= 127 && (n != "" || end != 0 || e != api.ErrLong) {
			t.Errorf("through %d rows: %q, %d, %v", i+1, string(n), end, e)
		}
	}
}

// told is the name at a place, where the rows that begin below limit alone may be led to, as the chapter's words say it; false, if there is none.
func told(b []byte, at, limit int) (labels []string, to int, ok bool) {
	if at >= limit {
		return nil, 0, false
	}
	begin := at
	for at < len(b) && 0 < b[at] && b[at] < 64 && at+int(b[at]) < len(b) {
		labels = append(labels, string(b[at+1:at+1+int(b[at])]))
		at += 1 + int(b[at])
	}
	if at < len(b) && b[at] == 0 {
		return labels, at + 1, true
	}
	if at+1 >= len(b) || b[at] < 192 {
		return nil, 0, false
	}
	more, _, ok := told(b, int(b[at]-192)*256+int(b[at+1]), begin)
	return append(labels, more...), at + 2, ok
}

// holds asks Take at a place of any bytes, and tells what of its promises does not hold.
func holds(t *testing.T, b []byte, at int) {
	t.Helper()
	n, to, e := Take(b, at)
	if e != api.OK {
		if n != "" || to != 0 {
			t.Errorf("Take(% x, %d) = %q, %d, %v", b, at, string(n), to, e)
		}
		switch {
		case e == api.ErrArg && (at < 0 || at > len(b)):
			return
		case e == api.ErrShort, e == api.ErrKind, e == api.ErrPointer, e == api.ErrLong:
		default:
			t.Errorf("Take(% x, %d): %v", b, at, e)
		}
		if labels, _, ok := told(b, at, at+1); ok {
			if long, _ := name.Of(labels...); long != "" || e != api.ErrLong {
				t.Errorf("Take(% x, %d): %v, though there is %q", b, at, e, labels)
			}
		}
		return
	}
	labels, end, ok := told(b, at, at+1)
	if want, late := name.Of(labels...); !ok || n != want || late != api.OK || to != end || name.Check(n) != api.OK {
		t.Errorf("Take(% x, %d) = %q, %d, not %q, %d", b, at, string(n), to, labels, end)
	}
}

func TestTakeOfAnyBytes(t *testing.T) { // P3.3, P3.4
	some := []byte{0, 1, 2, 3, 63, 64, 191, 192, 193, 255}
	for size := range 6 {
		count := 1
		for range size {
			count *= len(some)
		}
		for i := range count {
			var b []byte
			for range size {
				b = append(b, some[i%len(some)])
				i /= len(some)
			}
			for at := -1; at <= size+1; at++ {
				holds(t, b, at)
			}
		}
	}
}

// FuzzTake asks about any bytes: what Take answers is the name that stands there, and can be written again.
func FuzzTake(f *testing.F) {
	f.Add([]byte("\x01a\x01b\x00\x01c\xc0\x02"), 5)
	f.Add([]byte("\x01a\xc0\x00"), 2)
	f.Add(chain(40), 79)
	f.Add([]byte(longest), 0)
	f.Fuzz(func(t *testing.T, b []byte, at int) {
		before := bytes.Clone(b)
		holds(t, b, at)
		n, _, e := Take(b, at)
		if e == api.OK {
			tab := New()
			out, _ := tab.Plain(b, n)
			if again, to, e := Take(out, len(b)); again != n || to != len(out) || e != api.OK {
				t.Errorf("Take of what Plain wrote of %q: %q, %d, %v", string(n), string(again), to, e)
			}
			out, _ = tab.Put(out, n)
			if again, to, e := Take(out, len(b)+Size(n)); again != n || to != len(out) || e != api.OK {
				t.Errorf("Take of what Put wrote of %q: %q, %d, %v", string(n), string(again), to, e)
			}
		}
		if !bytes.Equal(b, before) {
			t.Errorf("% x became % x", before, b)
		}
	})
}
