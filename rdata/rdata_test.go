package rdata

import (
	"strings"
	"testing"

	"hearsay/api"
	"hearsay/name"
)

// other is a type that is not in the table.
const other uint16 = 99

// known are the types of the table, with the texts and the fields that they have there.
var known = []struct {
	t       uint16
	text    string
	host    bool
	mail    bool
	numbers int
	bits    int
	raw     bool
}{
	{1, "A", false, false, 0, 0, true},
	{2, "NS", true, false, 0, 0, false},
	{5, "CNAME", true, false, 0, 0, false},
	{6, "SOA", true, true, 5, 32, false},
	{12, "PTR", true, false, 0, 0, false},
	{15, "MX", true, false, 1, 16, false},
	{16, "TXT", false, false, 0, 0, true},
	{28, "AAAA", false, false, 0, 0, true},
	{33, "SRV", true, false, 3, 16, false},
}

// longest is a name of 255 bytes.
var longest = api.Name(strings.Repeat("\x01a", 127) + "\x00")

// typed is data and a type.
type typed struct {
	t uint16
	d api.Data
}

// good are data that may be of their types.
func good() []typed {
	const sixteen = "\x20\x01\x0d\xb8\x00\x00\x00\x00\x00\x0a\x00\x00\x00\x00\xff\xff"
	return []typed{
		{api.TypeA, api.Data{Raw: "\x7f\x00\x00\x01"}},
		{api.TypeA, api.Data{Raw: "\x00\x00\x00\x00"}},
		{api.TypeA, api.Data{Raw: "\xff\x0a\x63\x64"}},
		{api.TypeNS, api.Data{Host: api.Root}},
		{api.TypeNS, api.Data{Host: "\x01a\x01B\x00"}},
		{api.TypeNS, api.Data{Host: longest}},
		{api.TypeNS, api.Data{Host: "\x01@\x02\\#\x04 \";.\x01\x00\x01\xff\x00"}},
		{api.TypeCNAME, api.Data{Host: "\x03www\x01a\x00"}},
		{api.TypePTR, api.Data{Host: "\x01*\x01A\x00"}},
		{api.TypeSOA, api.Data{Host: "\x02ns\x01a\x00", Mail: "\x02m.\x01a\x00", N: [5]uint32{1, 2, 3, 4, 5}}},
		{api.TypeSOA, api.Data{Host: api.Root, Mail: api.Root}},
		{api.TypeSOA, api.Data{Host: longest, Mail: longest, N: [5]uint32{1<<32 - 1, 1<<32 - 1, 1 << 31, 1<<32 - 1, 1<<32 - 1}}},
		{api.TypeMX, api.Data{N: [5]uint32{10}, Host: "\x01a\x01b\x00"}},
		{api.TypeMX, api.Data{N: [5]uint32{65535}, Host: api.Root}},
		{api.TypeMX, api.Data{Host: longest}},
		{api.TypeTXT, api.Data{Raw: "\x00"}},
		{api.TypeTXT, api.Data{Raw: "\x03a\"b"}},
		{api.TypeTXT, api.Data{Raw: "\x02\\#\x00\x05 a;\x00\xff\x01\n"}},
		{api.TypeTXT, api.Data{Raw: "\xff" + strings.Repeat("x", 255) + "\x00\x00"}},
		{api.TypeTXT, api.Data{Raw: strings.Repeat("\xfe"+strings.Repeat("\xfe", 254), 257)}}, // 65535 bytes
		{api.TypeTXT, api.Data{Raw: strings.Repeat("\x00", 65535)}},
		{api.TypeAAAA, api.Data{Raw: sixteen}},
		{api.TypeAAAA, api.Data{Raw: strings.Repeat("\x00", 15) + "\x01"}},
		{api.TypeSRV, api.Data{N: [5]uint32{1, 2, 3}, Host: "\x01a\x01B\x00"}},
		{api.TypeSRV, api.Data{N: [5]uint32{65535, 65535, 65535}, Host: longest}},
		{api.TypeSRV, api.Data{Host: api.Root}},
		{other, api.Data{}},
		{other, api.Data{Raw: "\x00\x01\x02\xab\xff"}},
		{other, api.Data{Raw: strings.Repeat("\x9c", 65535)}},
		{0, api.Data{Raw: "x"}},
		{api.TypeOPT, api.Data{Raw: "\x00"}},
		{api.TypeAXFR, api.Data{}},
		{api.TypeANY, api.Data{Raw: "a.b"}},
		{65535, api.Data{Raw: "\x00"}},
	}
}

// bad are data that may not be of their types.
func bad() []typed {
	long := "\x01a" + longest
	l := []typed{
		{api.TypeA, api.Data{}},
		{api.TypeA, api.Data{Raw: "abc"}},
		{api.TypeA, api.Data{Raw: "abcde"}},
		{api.TypeA, api.Data{Raw: strings.Repeat("a", 16)}},
		{api.TypeAAAA, api.Data{}},
		{api.TypeAAAA, api.Data{Raw: "abcd"}},
		{api.TypeAAAA, api.Data{Raw: strings.Repeat("a", 15)}},
		{api.TypeAAAA, api.Data{Raw: strings.Repeat("a", 17)}},
		{api.TypeTXT, api.Data{}},
		{api.TypeTXT, api.Data{Raw: "\x01"}},
		{api.TypeTXT, api.Data{Raw: "\x02a"}},
		{api.TypeTXT, api.Data{Raw: "\x01ab"}},
		{api.TypeTXT, api.Data{Raw: "\x00\x01a\x03bc"}},
		{api.TypeTXT, api.Data{Raw: strings.Repeat("\x00", 65536)}},
		{api.TypeTXT, api.Data{Raw: strings.Repeat("\xff"+strings.Repeat("x", 255), 256)}},
		{other, api.Data{Raw: strings.Repeat("x", 65536)}},
		{other, api.Data{Host: api.Root}},
		{other, api.Data{Mail: api.Root}},
		{other, api.Data{N: [5]uint32{1}}},
		{api.TypeSOA, api.Data{Host: api.Root}},
		{api.TypeSOA, api.Data{Mail: api.Root}},
		{api.TypeSOA, api.Data{Host: api.Root, Mail: long}},
		{api.TypeSOA, api.Data{Host: long, Mail: api.Root}},
		{api.TypeMX, api.Data{N: [5]uint32{65536}, Host: api.Root}},
		{api.TypeMX, api.Data{N: [5]uint32{1<<32 - 1}, Host: api.Root}},
		{api.TypeSRV, api.Data{N: [5]uint32{65536}, Host: api.Root}},
		{api.TypeSRV, api.Data{N: [5]uint32{0, 65536}, Host: api.Root}},
		{api.TypeSRV, api.Data{N: [5]uint32{0, 0, 65536}, Host: api.Root}},
	}
	for _, k := range known {
		if k.host {
			for _, n := range []api.Name{"", "a", "\x01a", "\x00\x00", long, "\xc0\x00"} {
				l = append(l, typed{k.t, api.Data{Host: n, Mail: map[bool]api.Name{true: api.Root}[k.mail]}})
			}
		}
	}
	return l
}

// plain are the least data that may be of a type of the table.
func plain(t uint16) api.Data {
	switch t {
	case api.TypeA:
		return api.Data{Raw: "abcd"}
	case api.TypeAAAA:
		return api.Data{Raw: "abcdefghabcdefgh"}
	case api.TypeTXT:
		return api.Data{Raw: "\x00"}
	case api.TypeSOA:
		return api.Data{Host: api.Root, Mail: api.Root}
	}
	return api.Data{Host: api.Root}
}

func TestCheck(t *testing.T) { // P4.1
	for _, x := range good() {
		if e := Check(x.t, x.d); e != api.OK {
			t.Errorf("Check(%d, %.40q): %v", x.t, x.d.Raw, e)
		}
	}
	for _, x := range bad() {
		if e := Check(x.t, x.d); e != api.ErrData {
			t.Errorf("Check(%d, %.40q, %.40q, %v): %v", x.t, x.d.Raw, string(x.d.Host), x.d.N, e)
		}
	}
}

func TestCheckOfFieldsThatATypeHasNot(t *testing.T) { // P4.1
	for _, k := range known {
		may := func(what string, is bool, change func(d *api.Data)) {
			d := plain(k.t)
			change(&d)
			if e := Check(k.t, d); (e == api.OK) != is || !is && e != api.ErrData {
				t.Errorf("Check of %s with %s: %v", k.text, what, e)
			}
		}
		may("nothing else", true, func(d *api.Data) {})
		if !k.raw {
			may("Raw", false, func(d *api.Data) { d.Raw = "\x00" })
		}
		may("Host", k.host, func(d *api.Data) { d.Host = "\x01a\x00" })
		may("Mail", k.mail, func(d *api.Data) { d.Mail = "\x01a\x00" })
		for i := range 5 {
			may("a number", i < k.numbers, func(d *api.Data) { d.N[i] = 65535 })
			may("a long number", i < k.numbers && k.bits == 32, func(d *api.Data) { d.N[i] = 65536 })
		}
	}
}

func TestFold(t *testing.T) { // P4.1
	whole := api.Data{Raw: "RAW", Host: "\x01A\x01Z\x00", Mail: "\x01M\x00", N: [5]uint32{65, 66, 67, 68, 1 << 31}}
	for _, k := range known {
		want := whole
		if k.host {
			want.Host = "\x01a\x01z\x00"
		}
		if k.mail {
			want.Mail = "\x01m\x00"
		}
		if d := Fold(k.t, whole); d != want {
			t.Errorf("Fold of %s: %v", k.text, d)
		}
	}
	for _, n := range []uint16{other, 0, api.TypeOPT, 65535} {
		if d := Fold(n, whole); d != whole {
			t.Errorf("Fold of the type %d: %v", n, d)
		}
	}
	if d := Fold(api.TypeNS, api.Data{Host: "NO\xffName\x00["}); d.Host != "no\xffname\x00[" {
		t.Errorf("Fold of what is no name: %q", string(d.Host))
	}
	for _, x := range good() {
		if d := Fold(x.t, x.d); Check(x.t, d) != api.OK || Fold(x.t, d) != d || name.Cmp(d.Host, x.d.Host) != 0 || d.Raw != x.d.Raw || d.N != x.d.N {
			t.Errorf("Fold(%d, %.40q) = %.40q", x.t, string(x.d.Host), string(d.Host))
		}
	}
}

func TestTypeText(t *testing.T) { // P4.4
	texts := map[uint16]string{0: "TYPE0", 3: "TYPE3", 41: "TYPE41", 99: "TYPE99", 252: "TYPE252", 255: "TYPE255", 65535: "TYPE65535"}
	for _, k := range known {
		texts[k.t] = k.text
	}
	for n, text := range texts {
		if s := TypeText(n); s != text {
			t.Errorf("TypeText(%d) = %s", n, s)
		}
	}
}

func TestTypeOf(t *testing.T) { // P4.4
	for _, k := range known {
		for _, s := range []string{k.text, strings.ToLower(k.text), k.text[:1] + strings.ToLower(k.text[1:]), strings.ToLower(k.text[:1]) + k.text[1:]} {
			if n, ok := TypeOf(s); n != k.t || !ok {
				t.Errorf("TypeOf(%s) = %d, %v", s, n, ok)
			}
		}
		for _, s := range []string{k.text + " ", " " + k.text, k.text + "\x00", k.text + "1", k.text + k.text} {
			if n, ok := TypeOf(s); n != 0 || ok {
				t.Errorf("TypeOf(%q) = %d, %v", s, n, ok)
			}
		}
	}
	for s, want := range map[string]uint16{"TYPE0": 0, "type1": 1, "Type10": 10, "tYpE65535": 65535, "TYPE100": 100} {
		if n, ok := TypeOf(s); n != want || !ok {
			t.Errorf("TypeOf(%s) = %d, %v", s, n, ok)
		}
	}
	for _, s := range []string{
		"", "Q", "TYPE", "TYPE01", "TYPE00", "TYPE65536", "TYPE99999999999999999999", "TYPE-1", "TYPE+1", "TYPE 1", "TYPE1 ", "TYPE1_0", "TYPE0x1", "TYPEa", "TYPE1.0",
		"1", "xTYPE1", "TYP1", "CLASS1", "OPT", "ANY", "AXFR", "AAA", "TYPETYPE1",
		"\u017foa", "\u017fRV", "TYPE\u0661", "TYPE\uff11", "ＭＸ", // letters and digits that are alike elsewhere
	} {
		if n, ok := TypeOf(s); n != 0 || ok {
			t.Errorf("TypeOf(%q) = %d, %v", s, n, ok)
		}
	}
}

func TestTypeOfTypeText(t *testing.T) { // P4.7
	for n := range 1 << 16 {
		if got, ok := TypeOf(TypeText(uint16(n))); got != uint16(n) || !ok {
			t.Errorf("TypeOf(%s) = %d, %v", TypeText(uint16(n)), got, ok)
		}
	}
}
