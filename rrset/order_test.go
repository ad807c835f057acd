package rrset

import (
	"cmp"
	"strings"
	"testing"

	"hearsay/api"
)

// namesInOrder are names, and behind them bytes that are none, each ahead of the next one.
func namesInOrder() []api.Name {
	return []api.Name{
		api.Root,
		"\x01\x00\x00", "\x01*\x00", "\x01@\x00",
		"\x01A\x00", "\x01a\x00", // alike: their bytes count
		"\x01\x00\x01a\x00",
		"\x01A\x01A\x00", "\x01A\x01a\x00", "\x01a\x01A\x00", "\x01a\x01a\x00",
		"\x01z\x01a\x00",
		api.Name(strings.Repeat("\x01z\x01a", 63) + "\x00"),
		"\x02ab\x00", "\x01b\x00", "\x01a\x01b\x00", "\x01Z\x00", "\x01z\x00", "\x01{\x00", "\x01\xff\x00",
		"", "\x00\x00", "\x01", "\x01A", "\x01A\x00\x00", "\x01a", "\x01a\x00\x00", "A", "AB", "a", "ab", "\xc0\x00", "\xff",
	}
}

// dataInOrder are data, each ahead of the next one.
func dataInOrder() []api.Data {
	var l []api.Data
	for _, raw := range []string{"", "\x00", "\x00\x00", "A", "AB", "B", "a", "\xff"} {
		for _, host := range []api.Name{"\x01b\x00", "\x01Z\x00", "\x01z\x00", "", "B", "a"} {
			for _, mail := range []api.Name{api.Root, "\x01B\x00", "\x01b\x00", "\x01\x00\x01b\x00", "a"} {
				for _, n := range [][5]uint32{{}, {0, 0, 0, 0, 1}, {0, 0, 2}, {0, 1 << 31}, {1, 0, 0, 0, 9}, {1, 1}, {1<<32 - 1}} {
					l = append(l, api.Data{Raw: raw, Host: host, Mail: mail, N: n})
				}
			}
		}
	}
	return l
}

// keysInOrder are keys, each ahead of the next one.
func keysInOrder() []api.Key {
	var l []api.Key
	for _, n := range namesInOrder() {
		for _, t := range []uint16{0, 1, 2, 28, 255, 65535} {
			for _, c := range []uint16{0, 1, 3, 65535} {
				l = append(l, api.Key{Name: n, Type: t, Class: c})
			}
		}
	}
	return l
}

// recordsInOrder are rows of records that are the same in small letters, each row ahead of the next one.
func recordsInOrder() [][]api.Record {
	type r = api.Record
	ns := func(n, host api.Name, ttl uint32) r {
		return r{Name: n, Type: 2, Class: 1, TTL: ttl, Data: api.Data{Host: host}}
	}
	address := func(n api.Name, class uint16, ttl uint32, d api.Data) r {
		return r{Name: n, Type: 1, Class: class, TTL: ttl, Data: d}
	}
	soa := func(host, mail api.Name, serial uint32) r {
		return r{Name: "\x01a\x00", Type: 6, Class: 1, TTL: 5, Data: api.Data{Host: host, Mail: mail, N: [5]uint32{serial}}}
	}
	return [][]r{
		{ns(api.Root, "\x01z\x00", 1<<32-1), ns(api.Root, "\x01Z\x00", 1<<32-1)},
		{address("\x01a\x00", 0, 9, api.Data{Raw: "zzzz"})},
		{address("\x01a\x00", 1, 9, api.Data{Host: "\x01A\x00"}), address("\x01A\x00", 1, 9, api.Data{Host: "\x01A\x00"})}, // A has no Host: it stays as it is
		{address("\x01a\x00", 1, 9, api.Data{Host: "\x01a\x00"})},
		{address("\x01a\x00", 1, 9, api.Data{}), address("\x01A\x00", 1, 9, api.Data{})}, // no bytes are no name: behind all names
		{address("\x01a\x00", 1, 1, api.Data{Raw: "AAAA"}), address("\x01A\x00", 1, 1, api.Data{Raw: "AAAA"})},
		{address("\x01a\x00", 1, 2, api.Data{Raw: "AAAA"})},
		{address("\x01a\x00", 1, 1<<32-1, api.Data{Raw: "AAAA"})},
		{address("\x01A\x00", 1, 0, api.Data{Raw: "aaaa"})},
		{address("\x01a\x00", 2, 0, api.Data{})},
		{ns("\x01a\x00", "\x01b\x00", 0), ns("\x01A\x00", "\x01B\x00", 0)},
		{ns("\x01A\x00", "\x01b\x00", 7), ns("\x01a\x00", "\x01B\x00", 7)},
		{ns("\x01A\x00", "\x01c\x00", 0)},
		{ns("\x01A\x00", "b", 0), ns("\x01A\x00", "B", 0)}, // no name, in small letters all the same
		{soa("\x01b\x00", "\x01c\x00", 9), soa("\x01B\x00", "\x01C\x00", 9)},
		{soa("\x01B\x00", "\x01d\x00", 1), soa("\x01b\x00", "\x01D\x00", 1)},
		{soa("\x01b\x00", "\x01D\x00", 2)},
		{{Name: "\x01a\x00", Type: 15, Class: 1, Data: api.Data{Mail: "\x01Z\x00"}}}, // MX has no Mail
		{{Name: "\x01a\x00", Type: 15, Class: 1, Data: api.Data{Mail: "\x01z\x00"}}},
		{{Name: "\x01a\x00", Type: 99, Class: 1, Data: api.Data{Host: "\x01Z\x00"}}}, // TYPE99 has no name
		{{Name: "\x01a\x00", Type: 99, Class: 1, Data: api.Data{Host: "\x01z\x00"}}},
		{ns("\x01A\x01A\x00", "\x01b\x00", 3), ns("\x01a\x01a\x00", "\x01B\x00", 3), ns("\x01a\x01A\x00", "\x01b\x00", 3)},
		{ns("\x01B\x00", "\x01b\x00", 3), ns("\x01b\x00", "\x01b\x00", 3)},
		{{}}, // no bytes are no name
		{{TTL: 1}},
		{ns("B", "\x01b\x00", 3), ns("b", "\x01b\x00", 3)},
		{ns("ba", "\x01b\x00", 3)},
	}
}

// rising holds each one of l against each one; they stand in order.
func rising[T any](t *testing.T, l []T, order func(a, b T) int) {
	t.Helper()
	for i, a := range l {
		for k, b := range l {
			if got := order(a, b); got != cmp.Compare(i, k) {
				t.Fatalf("of %#v and %#v (%d, %d): %d", a, b, i, k, got)
			}
		}
	}
}

func TestCmpData(t *testing.T) { // P5.2
	rising(t, dataInOrder(), CmpData)
	for _, n := range namesInOrder() {
		if CmpData(api.Data{Host: n, Mail: "\xff"}, api.Data{Host: n, Mail: "\xff"}) != 0 {
			t.Errorf("data with %q are not the same as themselves", string(n))
		}
	}
	rising(t, namesInOrder(), func(a, b api.Name) int { return CmpData(api.Data{Host: a}, api.Data{Host: b}) })
	rising(t, namesInOrder(), func(a, b api.Name) int { return CmpData(api.Data{Mail: a}, api.Data{Mail: b}) })
}

func TestCmpDataPartByPart(t *testing.T) { // P5.2
	rising(t, []api.Data{
		{Raw: "a", Host: "\x01b\x00", Mail: "\x01b\x00", N: [5]uint32{2}},
		{Raw: "b", Host: "\x01a\x00", Mail: "\x01b\x00", N: [5]uint32{2}},
		{Raw: "b", Host: "\x01b\x00", Mail: "\x01a\x00", N: [5]uint32{2}},
		{Raw: "b", Host: "\x01b\x00", Mail: "\x01b\x00", N: [5]uint32{1, 9, 9, 9, 9}},
		{Raw: "b", Host: "\x01b\x00", Mail: "\x01b\x00", N: [5]uint32{2}},
	}, CmpData)
	for i := range 5 {
		var low, high api.Data
		high.N[i] = 1 << 31 // more than what a number with a sign holds
		low.N[i] = 1<<31 - 1
		rising(t, []api.Data{{}, low, high}, CmpData)
	}
	rising(t, []api.Data{{Host: "\x01b\x00", Mail: "\x01B\x00"}, {Host: "\x01b\x00", Mail: "\x01b\x00"}, {Host: "\x01C\x00"}}, CmpData)
}

func TestCmpKey(t *testing.T) { // P5.2
	rising(t, keysInOrder(), CmpKey)
}

func TestCmp(t *testing.T) { // P5.2, P5.6
	l := recordsInOrder()
	rising(t, l, func(a, b []api.Record) int {
		sign := Cmp(a[0], b[0])
		for _, x := range a {
			for _, y := range b {
				if Cmp(x, y) != sign {
					t.Fatalf("Cmp(%#v, %#v) = %d, not %d", x, y, Cmp(x, y), sign)
				}
				if (sign == 0) != (Fold(x) == Fold(y)) {
					t.Fatalf("Cmp(%#v, %#v) = %d", x, y, sign)
				}
			}
		}
		return sign
	})
}

func TestCmpTakesKeysAheadOfData(t *testing.T) { // P5.2
	d := api.Data{Raw: "a"}
	rising(t, []api.Record{
		{Name: "\x01a\x00", Type: 2, Class: 2, TTL: 2, Data: api.Data{Raw: "b"}},
		{Name: "\x01B\x00", Type: 1, Class: 2, TTL: 2, Data: api.Data{Raw: "b"}},
		{Name: "\x01b\x00", Type: 2, Class: 1, TTL: 2, Data: api.Data{Raw: "b"}},
		{Name: "\x01B\x00", Type: 2, Class: 2, TTL: 2, Data: d},
		{Name: "\x01b\x00", Type: 2, Class: 2, TTL: 3, Data: d},
		{Name: "\x01B\x00", Type: 2, Class: 2, TTL: 1, Data: api.Data{Raw: "b"}},
		{Name: "\x01c\x00"},
	}, Cmp)
}
