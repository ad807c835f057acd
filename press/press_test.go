package press

import (
	"bytes"
	"slices"
	"strings"
	"testing"

	"hearsay/api"
	"hearsay/name"
)

// longest is a name of 255 bytes in 127 labels.
var longest = api.Name(strings.Repeat("\x01a", 127) + "\x00")

// noNames are bytes that are no names.
var noNames = []api.Name{
	"", "a", "\x01", "\x01a", "\x02a\x00", "\x00\x00", "\x01a\x00\x00", "\x01a\x01b", "\xc0\x00", "\x01a\xc0\x00",
	api.Name("\x40" + strings.Repeat("a", 64) + "\x00"), "\x01a" + longest,
}

// writes are the two calls that write a name.
var writes = []struct {
	what string
	call func(t *Table, b []byte, n api.Name) ([]byte, api.Errno)
}{{"Put", (*Table).Put}, {"Plain", (*Table).Plain}}

// put is what Put writes behind b, which stays as it is.
func put(t *testing.T, tab *Table, b []byte, n api.Name) string {
	t.Helper()
	out, e := tab.Put(b, n)
	if e != api.OK || !bytes.HasPrefix(out, b) {
		t.Fatalf("Put(%.20q, %.20q) = %.20q, %v", b, string(n), out, e)
	}
	return string(out[len(b):])
}

// plain is what Plain writes behind b, which stays as it is.
func plain(t *testing.T, tab *Table, b []byte, n api.Name) string {
	t.Helper()
	out, e := tab.Plain(b, n)
	if e != api.OK || !bytes.HasPrefix(out, b) {
		t.Fatalf("Plain(%.20q, %.20q) = %.20q, %v", b, string(n), out, e)
	}
	return string(out[len(b):])
}

// line is names that are put one behind the other, and what is written of each.
type line []struct {
	n    api.Name
	want string
}

func TestPut(t *testing.T) { // P3.1
	for _, l := range []line{
		{{"\x01a\x01b\x00", "\x01a\x01b\x00"}, {"\x01c\x01b\x00", "\x01c\xc0\x02"}, {"\x01A\x01b\x00", "\x01A\xc0\x02"}, {"\x01x\x01A\x01b\x00", "\x01x\xc0\x09"}, {"\x01x\x01A\x01b\x00", "\xc0\x0d"}},
		{{"\x01a\x00", "\x01a\x00"}, {"\x01a\x00", "\xc0\x00"}, {"\x01a\x00", "\xc0\x00"}, {"\x01a\x01a\x00", "\x01a\xc0\x00"}, {"\x01a\x01a\x00", "\xc0\x07"}},
		{{"\x01A\x00", "\x01A\x00"}, {"\x01a\x00", "\x01a\x00"}, {"\x01A\x00", "\xc0\x00"}, {"\x01a\x00", "\xc0\x03"}},
		{{"\x00", "\x00"}, {"\x00", "\x00"}, {"\x01a\x00", "\x01a\x00"}, {"\x00", "\x00"}, {"\x01a\x00", "\xc0\x02"}},
		{{"\x01a\x01a\x01a\x00", "\x01a\x01a\x01a\x00"}, {"\x01a\x00", "\xc0\x04"}, {"\x01a\x01a\x00", "\xc0\x02"}, {"\x01a\x01a\x01a\x01a\x00", "\x01a\xc0\x00"}},
		{{"\x03a.b\x00", "\x03a.b\x00"}, {"\x01a\x01b\x00", "\x01a\x01b\x00"}, {"\x01b\x00", "\xc0\x07"}},
		{{"\x03a\x01b\x00", "\x03a\x01b\x00"}, {"\x01b\x00", "\x01b\x00"}},
		{{"\x01a\x01b\x00", "\x01a\x01b\x00"}, {"\x01a\x00", "\x01a\x00"}, {"\x02ab\x00", "\x02ab\x00"}, {"\x01b\x01a\x00", "\x01b\xc0\x05"}},
		{{longest, string(longest)}, {longest, "\xc0\x00"}, {longest[2:], "\xc0\x02"}, {"\x01b" + longest[2:], "\x01b\xc0\x02"}, {"\x01a\x00", "\xc0\xfc"}},
	} {
		tab := New()
		var b []byte
		for _, x := range l {
			if got := put(t, tab, b, x.n); got != x.want {
				t.Errorf("Put(.., %.20q) behind %d bytes = % x, not % x", string(x.n), len(b), got, x.want)
			}
			b = append(b, x.want...)
		}
	}
}

func TestNew(t *testing.T) { // P3.1
	one, other := New(), New()
	put(t, one, nil, "\x01a\x00")
	if got := put(t, other, nil, "\x01a\x00"); got != "\x01a\x00" {
		t.Errorf("a new table remembers another one's: % x", got)
	}
	if got := put(t, New(), []byte("\x01a\x00"), "\x01a\x00"); got != "\x01a\x00" {
		t.Errorf("a new table remembers what stands in the bytes: % x", got)
	}
	var zero Table
	if put(t, &zero, nil, "\x01a\x00"); put(t, &zero, nil, "\x01a\x00") != "\xc0\x00" {
		t.Errorf("a table that is not made by New does not remember")
	}
}

func TestRefused(t *testing.T) { // P3.1, P3.2
	for _, w := range writes {
		for _, n := range append(slices.Clone(noNames), api.Root, "\x01a\x00") {
			if out, e := w.call(nil, []byte("x"), n); len(out) != 0 || e != api.ErrNil {
				t.Errorf("%s of no table, %.20q: %.20q, %v", w.what, string(n), out, e)
			}
		}
		tab := New()
		for _, n := range noNames {
			if out, e := w.call(tab, []byte("x"), n); len(out) != 0 || e != api.ErrName {
				t.Errorf("%s of %.20q: %.20q, %v", w.what, string(n), out, e)
			}
		}
		if got := put(t, tab, nil, "\x01a\x01b\x00"); got != "\x01a\x01b\x00" {
			t.Errorf("%s remembers what it refused: % x", w.what, got)
		}
	}
}

func TestPlaces(t *testing.T) { // P3.1, P3.2
	for _, w := range writes {
		for _, x := range []struct {
			from int
			n    api.Name
			ask  api.Name
			want string
		}{
			{0, "\x01a\x00", "\x01a\x00", "\xc0\x00"},
			{1, "\x01a\x00", "\x01a\x00", "\xc0\x01"},
			{255, "\x01a\x00", "\x01a\x00", "\xc0\xff"},
			{256, "\x01a\x00", "\x01a\x00", "\xc1\x00"},
			{8192, "\x01a\x00", "\x01a\x00", "\xe0\x00"},
			{16382, "\x01a\x00", "\x01a\x00", "\xff\xfe"},
			{16383, "\x01a\x00", "\x01a\x00", "\xff\xff"},
			{16384, "\x01a\x00", "\x01a\x00", "\x01a\x00"},
			{16385, "\x01a\x00", "\x01a\x00", "\x01a\x00"},
			{32768, "\x01a\x00", "\x01a\x00", "\x01a\x00"},
			{65536, "\x01a\x00", "\x01a\x00", "\x01a\x00"},
			{65537, "\x01a\x00", "\x01a\x00", "\x01a\x00"},
			{16381, "\x01a\x01b\x00", "\x01b\x00", "\xff\xff"},
			{16382, "\x01a\x01b\x00", "\x01a\x01b\x00", "\xff\xfe"},
			{16382, "\x01a\x01b\x00", "\x01b\x00", "\x01b\x00"},
			{16382, "\x01a\x01b\x00", "\x01c\x01b\x00", "\x01c\x01b\x00"},
		} {
			tab := New()
			if _, e := w.call(tab, make([]byte, x.from), x.n); e != api.OK {
				t.Fatalf("%s of %q at %d: %v", w.what, string(x.n), x.from, e)
			}
			if got := put(t, tab, make([]byte, 70000), x.ask); got != x.want {
				t.Errorf("%s of %q at %d; then Put of %q: % x, not % x", w.what, string(x.n), x.from, string(x.ask), got, x.want)
			}
		}
	}
	tab := New()
	put(t, tab, make([]byte, 16384), "\x01a\x00")
	put(t, tab, make([]byte, 5), "\x01a\x00")
	if got := put(t, tab, make([]byte, 9), "\x01a\x00"); got != "\xc0\x05" {
		t.Errorf("a place beyond those that are remembered keeps a later one away: % x", got)
	}
}

func TestPlain(t *testing.T) { // P3.2
	tab := New()
	for _, n := range []api.Name{"\x01a\x01b\x00", "\x01a\x01b\x00", api.Root, longest, longest} {
		if got := plain(t, tab, []byte("xyz"), n); got != string(n) {
			t.Errorf("Plain(xyz, %.20q) = %.20q", string(n), got)
		}
	}
	if got := put(t, tab, make([]byte, 99), "\x01b\x00"); got != "\xc0\x05" {
		t.Errorf("of what Plain wrote: % x", got)
	}
	if got := put(t, tab, make([]byte, 99), api.Root); got != "\x00" {
		t.Errorf("Plain remembers the root: % x", got)
	}
}

func TestPlainRemembersWhatIsNotYet(t *testing.T) { // P3.2
	tab := New()
	b := []byte(put(t, tab, nil, "\x01a\x01b\x00"))
	b = append(b, plain(t, tab, b, "\x01a\x01b\x00")...)
	b = append(b, plain(t, tab, b, "\x01c\x01b\x00")...)
	if string(b) != "\x01a\x01b\x00\x01a\x01b\x00\x01c\x01b\x00" {
		t.Fatalf("% x", b)
	}
	for _, x := range (line{{"\x01a\x01b\x00", "\xc0\x00"}, {"\x01b\x00", "\xc0\x02"}, {"\x01c\x01b\x00", "\xc0\x0a"}, {"\x01d\x01c\x01b\x00", "\x01d\xc0\x0a"}}) {
		if got := put(t, tab, b, x.n); got != x.want {
			t.Errorf("Put of %q = % x, not % x", string(x.n), got, x.want)
		}
	}
}

func TestOwnMemory(t *testing.T) { // P3.1, P3.2
	for _, w := range writes {
		for _, n := range []api.Name{api.Root, "\x01a\x00", "\x01c\x01b\x00", "\x01b\x00", longest} {
			tab := New()
			put(t, tab, nil, "\x01b\x00")
			all := append([]byte("\x01b\x00"), bytes.Repeat([]byte{0xee}, 300)...)
			before := bytes.Clone(all)
			first, _ := w.call(tab, all[:3], n)
			second, _ := w.call(tab, all[:3], n)
			if !bytes.Equal(all, before) {
				t.Errorf("%s of %.20q changed its bytes, or the room behind them", w.what, string(n))
			}
			want := bytes.Clone(second)
			first = first[:cap(first)]
			for i := range first {
				first[i] ^= 0xff
			}
			if !bytes.Equal(all, before) || !bytes.Equal(second, want) {
				t.Errorf("%s of %.20q: the answer shares memory", w.what, string(n))
			}
			for i := range all {
				all[i] ^= 0xff
			}
			if !bytes.Equal(second, want) {
				t.Errorf("%s of %.20q: what is written to its bytes is seen in the answer", w.what, string(n))
			}
		}
	}
}

// some are names of which many have tails in common, or are alike.
func some(t *testing.T) []api.Name {
	t.Helper()
	var l []api.Name
	for _, text := range strings.Fields(`. a. A. b. a.b. A.b. a.B. b.a. a.a. a.a.a. c.a.b. c.A.b. d.c.a.b. ab. a\.b. x.a\.b. \000. \000.a. a.\000. \192\000. \001a. \001.a. *.a. www.a.b. ns.www.a.b. c. d.c.`) {
		n, e := name.Parse(text, api.Root)
		if e != api.OK {
			t.Fatalf("%s: %v", text, e)
		}
		l = append(l, n)
	}
	label := "\x3f" + strings.Repeat("x", 63)
	return append(l, longest, longest[2:], "\x01b"+longest[2:], api.Name(label+"\x00"), api.Name(label+label+label+"\x01a\x00"), api.Name(label+label+"\x01a\x00"))
}

func TestTakeOfPut(t *testing.T) { // P3.4
	l := some(t)
	for step := 1; step < 60; step++ {
		tab := New()
		var b []byte
		var row, starts []int
		for i := range 3 * len(l) {
			n := l[i*step%len(l)]
			starts, row = append(starts, len(b)), append(row, i*step%len(l))
			more := put(t, tab, b, n)
			if len(more) > Size(n) {
				t.Errorf("%q takes %d bytes", string(n), len(more))
			}
			if pointed := len(more) == 2 && more[0] >= 0xc0; slices.Contains(row[:i], row[i]) && pointed == (n == api.Root) {
				t.Errorf("%q again: % x", string(n), more)
			}
			b = append(b, more...)
		}
		size := len(b)
		b = append(b, "\xc0\x00\x3f"...)
		for i, at := range starts {
			end := append(starts, size)[i+1]
			if n, to, e := Take(b, at); n != l[row[i]] || to != end || e != api.OK {
				t.Errorf("Take at %d = %q, %d, %v, not %q, %d", at, string(n), to, e, string(l[row[i]]), end)
			}
		}
	}
}

func TestTakeOfPutFarOn(t *testing.T) { // P3.4
	tab := New()
	var b []byte
	var starts []int
	var names []api.Name
	for i := 0; len(b) < 40000; i++ {
		n, e := name.Of("x"+string(rune('a'+i%26)), strings.Repeat("y", 1+i%63), string(rune('a'+i%7)), "z")
		if e != api.OK {
			t.Fatal(e)
		}
		for _, again := range []int{1, 2} {
			starts, names = append(starts, len(b)), append(names, n)
			more := put(t, tab, b, n)
			if again == 2 && len(b)-Size(n) <= maxPlace && len(more) != 2 {
				t.Fatalf("%q again, at %d: % x", string(n), len(b), more)
			}
			b = append(b, more...)
		}
		b = append(b, make([]byte, 25)...)
	}
	for i, at := range starts {
		if n, _, e := Take(b, at); n != names[i] || e != api.OK {
			t.Fatalf("Take at %d = %q, %v, not %q", at, string(n), e, string(names[i]))
		}
	}
}

func TestTakeOfPutAndPlain(t *testing.T) { // P3.2, P3.4
	l := some(t)
	tab := New()
	var b []byte
	var starts []int
	for i := range 4 * len(l) {
		starts = append(starts, len(b))
		out, e := writes[i/3%2].call(tab, b, l[i*5%len(l)])
		if e != api.OK {
			t.Fatal(e)
		}
		b = out
	}
	for i, at := range starts {
		if n, to, e := Take(b, at); n != l[i*5%len(l)] || to != append(starts, len(b))[i+1] || e != api.OK {
			t.Errorf("Take at %d = %q, %d, %v, not %q", at, string(n), to, e, string(l[i*5%len(l)]))
		}
	}
}

func TestSize(t *testing.T) { // P3.3
	for _, n := range some(t) {
		if s := Size(n); s != len(n) || s != len(plain(t, New(), nil, n)) {
			t.Errorf("Size(%q) = %d", string(n), s)
		}
	}
	for _, n := range noNames {
		if s := Size(n); s != 0 {
			t.Errorf("Size(%.20q) = %d", string(n), s)
		}
	}
}
