package rdata

import (
	"bytes"
	"math"
	"slices"
	"strings"
	"testing"

	"hearsay/api"
	"hearsay/press"
)

// put is what Put writes behind b, which must not change, nor the room behind it.
func put(t *testing.T, tab *press.Table, b string, x typed) string {
	t.Helper()
	room := append([]byte(b), "the room behind"...)
	before := bytes.Clone(room)
	out, e := Put(room[:len(b)], tab, x.t, x.d)
	if e != api.OK || !strings.HasPrefix(string(out), b) {
		t.Fatalf("Put(%.40q, %d, %.40q) = %.40q, %v", b, x.t, x.d.Raw, out, e)
	}
	wrote := string(out[len(b):])
	for i := range out[:cap(out)] {
		out[:cap(out)][i] = 0xee
	}
	if !bytes.Equal(room, before) {
		t.Errorf("Put changed what it was handed, or handed it out: %q", room)
	}
	return wrote
}

func TestPut(t *testing.T) { // P4.2
	for _, x := range []struct {
		typed
		want string
	}{
		{typed{api.TypeA, api.Data{Raw: "\x7f\x00\x00\x01"}}, "\x7f\x00\x00\x01"},
		{typed{api.TypeAAAA, api.Data{Raw: "0123456789abcdef"}}, "0123456789abcdef"},
		{typed{api.TypeTXT, api.Data{Raw: "\x01a\x00"}}, "\x01a\x00"},
		{typed{other, api.Data{Raw: "\x01a\x00"}}, "\x01a\x00"},
		{typed{other, api.Data{}}, ""},
		{typed{api.TypeNS, api.Data{Host: "\x01A\x00"}}, "\x01A\x00"},
		{typed{api.TypeCNAME, api.Data{Host: api.Root}}, "\x00"},
		{typed{api.TypePTR, api.Data{Host: "\x01a\x01b\x00"}}, "\x01a\x01b\x00"},
		{typed{api.TypeMX, api.Data{N: [5]uint32{10}, Host: "\x01a\x01b\x00"}}, "\x00\x0a\x01a\x01b\x00"},
		{typed{api.TypeSRV, api.Data{N: [5]uint32{1, 258, 65535}, Host: "\x01a\x00"}}, "\x00\x01\x01\x02\xff\xff\x01a\x00"},
		{typed{api.TypeSOA, api.Data{Host: "\x01a\x00", Mail: "\x01b\x00", N: [5]uint32{1, 2, 3, 4, 0xfffefdfc}}}, "\x01a\x00\x01b\x00\x00\x00\x00\x01\x00\x00\x00\x02\x00\x00\x00\x03\x00\x00\x00\x04\xff\xfe\xfd\xfc"},
	} {
		for _, b := range []string{"", "x", "\xc0\x00\x01"} {
			if got := put(t, press.New(), b, x.typed); got != x.want {
				t.Errorf("Put(%q, %d, %v) wrote % x", b, x.t, x.d, got)
			}
		}
	}
}

func TestPutNamesByTheTable(t *testing.T) { // P4.2
	const soaEnd = "\x00\x00\x00\x00\x00\x00\x00\x00\x00\x00\x00\x00\x00\x00\x00\x00\x00\x00\x00\x00"
	ab, cb := api.Name("\x01a\x01b\x00"), api.Name("\x01c\x01b\x00")
	for _, n := range []uint16{api.TypeNS, api.TypeCNAME, api.TypePTR, api.TypeMX, api.TypeSOA} {
		tab := press.New()
		d := api.Data{Host: cb}
		want, wantOther := "\x01c\xc0\x02", "\xc0\x05"
		if n == api.TypeMX {
			want, wantOther = "\x00\x00\x01c\xc0\x02", "\x00\x00\xc0\x07"
		}
		if n == api.TypeSOA {
			d.Mail = "\x01m\x01c\x01b\x00"
			want, wantOther = "\x01c\xc0\x02\x01m\xc0\x05"+soaEnd, "\xc0\x05\xc0\x09"+soaEnd
		}
		b := put(t, tab, "", typed{api.TypeNS, api.Data{Host: ab}})
		first := put(t, tab, b, typed{n, d})
		if again := put(t, tab, b+first, typed{n, d}); first != want || again != wantOther {
			t.Errorf("Put of the type %d: % x, and % x", n, first, again)
		}
	}
	tab := press.New()
	srv := typed{api.TypeSRV, api.Data{Host: cb}}
	b := put(t, tab, "", typed{api.TypeNS, api.Data{Host: ab}})
	for range 2 { // no pointer in it
		wrote := put(t, tab, b, srv)
		if wrote != "\x00\x00\x00\x00\x00\x00\x01c\x01b\x00" {
			t.Errorf("Put of an SRV: % x", wrote)
		}
		b += wrote
	}
	// But others' pointers lead to it: its place is counted from the beginning of all bytes.
	if wrote := put(t, tab, b, typed{api.TypeNS, api.Data{Host: cb}}); wrote != "\xc0\x0b" {
		t.Errorf("Put of what an SRV told: % x", wrote)
	}
}

func TestPutRefused(t *testing.T) { // P4.2
	for _, x := range append(bad(), good()[:4]...) {
		if out, e := Put([]byte("x"), nil, x.t, x.d); len(out) != 0 || e != api.ErrNil {
			t.Errorf("Put without a table: %q, %v", out, e)
		}
	}
	tab := press.New()
	for _, x := range bad() {
		if out, e := Put([]byte("x"), tab, x.t, x.d); len(out) != 0 || e != api.ErrData {
			t.Errorf("Put(%d, %.40q) = %.40q, %v", x.t, x.d.Raw, out, e)
		}
	}
	refused := typed{api.TypeMX, api.Data{N: [5]uint32{65536}, Host: "\x01q\x00"}}
	Put(nil, tab, refused.t, refused.d)
	Put(nil, tab, api.TypeSOA, api.Data{Host: "\x01q\x00", Mail: "q"})
	if wrote := put(t, tab, "", typed{api.TypeNS, api.Data{Host: "\x01q\x00"}}); wrote != "\x01q\x00" {
		t.Errorf("the table remembers what was refused: % x", wrote)
	}
}

func TestTakeOfPut(t *testing.T) { // P4.7
	all := good()
	slices.Reverse(all)
	for _, l := range [][]typed{good(), all, append(good(), all...)} {
		tab := press.New()
		var b []byte
		var places []int
		for _, x := range l {
			places = append(places, len(b))
			out, e := Put(b, tab, x.t, x.d)
			if e != api.OK {
				t.Fatal(e)
			}
			b = out
		}
		places = append(places, len(b))
		before := bytes.Clone(b)
		for i, x := range l {
			d, e := Take(b, places[i], places[i+1]-places[i], x.t)
			if d != x.d || e != api.OK {
				t.Errorf("Take(.., %d) of the type %d = %.40q, %.40q, %v, %v", places[i], x.t, d.Raw, string(d.Host), d.N, e)
			}
		}
		if !bytes.Equal(b, before) {
			t.Error("Take changed its bytes")
		}
	}
}

// takings are what Take is asked, and what it answers.
type takings []struct {
	b     string
	at, n int
	t     uint16
	d     api.Data
	e     api.Errno
}

// takes asks Take, in bytes that have room behind their end.
func takes(t *testing.T, l takings) {
	t.Helper()
	for _, x := range l {
		b := append([]byte(x.b), strings.Repeat("\x01a\x00", 50)...)
		d, e := Take(b[:len(x.b)], x.at, x.n, x.t)
		for i := range b {
			b[i] = 0xee
		}
		if d != x.d || e != x.e {
			t.Errorf("Take(%.40q, %d, %d, %d) = %.40q, %q, %q, %v, %v", x.b, x.at, x.n, x.t, d.Raw, string(d.Host), string(d.Mail), d.N, e)
		}
	}
}

func TestTake(t *testing.T) { // P4.3
	none := api.Data{}
	soa := "\x01a\x00\x01b\xc0\x00\x00\x00\x00\x01\x00\x00\x00\x02\x00\x00\x00\x03\x00\x00\x00\x04\xff\xfe\xfd\xfc"
	takes(t, takings{
		{"\x7f\x00\x00\x01", 0, 4, 1, api.Data{Raw: "\x7f\x00\x00\x01"}, api.OK},
		{"xx\x7f\x00\x00\x01yy", 2, 4, 1, api.Data{Raw: "\x7f\x00\x00\x01"}, api.OK},
		{"\x7f\x00\x00\x01", 0, 3, 1, none, api.ErrData},
		{"\x7f\x00\x00\x01\x01", 0, 5, 1, none, api.ErrData},
		{"\x7f\x00\x00\x01", 4, 0, 1, none, api.ErrData},
		{"0123456789abcdef", 0, 16, 28, api.Data{Raw: "0123456789abcdef"}, api.OK},
		{"0123456789abcdef", 0, 15, 28, none, api.ErrData},
		{"\x00\x01a\x03", 0, 3, 16, api.Data{Raw: "\x00\x01a"}, api.OK},
		{"\x00\x01a\x03", 0, 2, 16, none, api.ErrData},
		{"\x00\x01a\x03", 0, 4, 16, none, api.ErrData},
		{"\x00\x01a\x03", 0, 0, 16, none, api.ErrData},
		{"\x00\x01a\x03", 1, 2, other, api.Data{Raw: "\x01a"}, api.OK},
		{"\x00\x01a\x03", 1, 0, other, none, api.OK},
		{"", 0, 0, other, none, api.OK},
		{strings.Repeat("x", 70000), 9, 65535, other, api.Data{Raw: strings.Repeat("x", 65535)}, api.OK},
		{strings.Repeat("x", 70000), 9, 65536, other, none, api.ErrData},
		{strings.Repeat("\x00", 65536), 0, 65536, 16, none, api.ErrData},
		{"\x01a\x00", 0, 3, 2, api.Data{Host: "\x01a\x00"}, api.OK},
		{"\x01a\x00", 2, 1, 5, api.Data{Host: api.Root}, api.OK},
		{"\x01A\x00\x01b\xc0\x00", 3, 4, 12, api.Data{Host: "\x01b\x01A\x00"}, api.OK},
		{"\x01a\x00\x01\x02\x01b\xc0\x00", 3, 6, 15, api.Data{N: [5]uint32{258}, Host: "\x01b\x01a\x00"}, api.OK},
		{"\x01a\x00\x00\x01\x00\x02\xff\xff\xc0\x00", 3, 8, 33, api.Data{N: [5]uint32{1, 2, 65535}, Host: "\x01a\x00"}, api.OK},
		{soa, 0, len(soa), 6, api.Data{Host: "\x01a\x00", Mail: "\x01b\x01a\x00", N: [5]uint32{1, 2, 3, 4, 0xfffefdfc}}, api.OK},
		{soa, 0, len(soa) - 1, 6, none, api.ErrData},
		{soa + "\x00", 0, len(soa) + 1, 6, none, api.ErrData},
		{soa, 0, 3, 6, none, api.ErrData},
		{soa, 0, 7, 6, none, api.ErrData},
	})
	for _, k := range []uint16{1, 2, 6, 15, 16, 28, 33, other} {
		for _, x := range [][2]int{{-1, 1}, {0, -1}, {4, 0}, {4, -1}, {0, 4}, {3, 1}, {1, math.MaxInt}, {math.MaxInt, math.MaxInt}, {math.MinInt, math.MaxInt}, {math.MaxInt, 1}, {0, math.MinInt}} {
			takes(t, takings{{"\x01a\x00", x[0], x[1], k, none, api.ErrArg}})
		}
		takes(t, takings{{"", 1, 0, k, none, api.ErrArg}, {"", 0, 1, k, none, api.ErrArg}})
	}
}

func TestTakeOfNames(t *testing.T) { // P4.3
	none := api.Data{}
	takes(t, takings{
		{"\xc0\x00", 0, 2, 2, none, api.ErrPointer},
		{"\x01a\xc0\x00", 0, 4, 2, none, api.ErrPointer},
		{"\x00\x01a\xc0\x01", 1, 4, 5, none, api.ErrPointer},
		{"\x40\x00", 0, 2, 2, none, api.ErrKind},
		{"\x01a", 0, 2, 2, none, api.ErrShort},
		{"\xc0", 0, 1, 2, none, api.ErrShort},
		{"", 0, 0, 2, none, api.ErrShort},
		{"\x01a\x00", 3, 0, 12, none, api.ErrShort},
		{"\x01a" + string(longest), 0, 257, 2, none, api.ErrLong},
		{"\x01a\x00\x00", 0, 4, 2, none, api.ErrData},          // a byte is left over
		{"\x01a\x00", 0, 2, 2, none, api.ErrData},              // the name ends behind the data
		{"\x01a\x00", 0, 0, 2, none, api.ErrData},              // it begins there, too
		{"\x01a\x00\x01b\xc0\x00", 3, 3, 2, none, api.ErrData}, // its pointer does
		{"\x01a\x40\x00", 0, 1, 2, none, api.ErrKind},          // wrong bytes behind the data, but of the name
		{"\x01a", 0, 1, 2, none, api.ErrShort},
		{"\x00", 0, 1, 15, none, api.ErrData}, // a number
		{"\x00\x00\x00", 0, 1, 15, none, api.ErrData},
		{"\x00\x00\x00", 0, 0, 15, none, api.ErrData},
		{"\x00\x00\x00", 0, 2, 15, none, api.ErrData}, // no name
		{"\x00\x00", 0, 2, 15, none, api.ErrShort},
		{"\x00\x00\x00\x00", 0, 4, 15, none, api.ErrData},
		{"\x00\x00\xc0\x02", 0, 4, 15, none, api.ErrPointer},
		{"\x00\x00\xc0\x01", 0, 4, 15, api.Data{Host: api.Root}, api.OK},
		{"\x00\x00\x00\x00\x00", 0, 5, 33, none, api.ErrData},
		{"\x00\x00\x00\x00\x00\x00\x80", 0, 7, 33, none, api.ErrKind},
		{"\x00\x40", 0, 2, 6, none, api.ErrKind},
		{"\x00", 0, 1, 6, none, api.ErrShort},
		{"\x00\x00" + strings.Repeat("\x00", 19), 0, 21, 6, none, api.ErrData},
		{"\x00\x00" + strings.Repeat("\x00", 21), 0, 23, 6, none, api.ErrData},
		{"\x00\xc0\x00" + strings.Repeat("\x00", 20), 0, 23, 6, api.Data{Host: api.Root, Mail: api.Root}, api.OK},
	})
}

// FuzzTake takes any bytes: what it answers may be, and is told again by bytes and by words.
func FuzzTake(f *testing.F) {
	for _, x := range good() {
		b, _ := Put([]byte("\x01a\x00"), press.New(), x.t, x.d)
		if len(b) < 1000 {
			f.Add(b, 3, len(b)-3, x.t)
		}
	}
	f.Fuzz(func(t *testing.T, b []byte, at, n int, kind uint16) {
		before := bytes.Clone(b)
		d, e := Take(b, at, n, kind)
		if !bytes.Equal(b, before) {
			t.Fatal("Take changed its bytes")
		}
		if e != api.OK {
			if d != (api.Data{}) {
				t.Errorf("beside an error: %v", d)
			}
			return
		}
		told(t, typed{kind, d})
	})
}

// told looks whether data may be, and whether they are read again from their bytes, and from their words.
func told(t *testing.T, x typed) {
	t.Helper()
	if Check(x.t, x.d) != api.OK {
		t.Fatalf("data that may not be: %d, %v", x.t, x.d)
	}
	tab := press.New()
	b, _ := Put([]byte("xyz"), tab, x.t, x.d)
	end := len(b)
	if d, e := Take(b, 3, end-3, x.t); d != x.d || e != api.OK {
		t.Errorf("Take of what Put wrote: %v, %v", d, e)
	}
	b, _ = Put(b, tab, x.t, x.d)
	if d, e := Take(b, end, len(b)-end, x.t); d != x.d || e != api.OK {
		t.Errorf("Take of what Put wrote again: %v, %v", d, e)
	}
	text, _ := Show(x.t, x.d)
	if d, e := Read(x.t, cut(t, text), "\x06origin\x00"); d != x.d || e != api.OK {
		t.Errorf("Read of what Show told, %.80s: %v, %v", text, d, e)
	}
}
