package master

import (
	"slices"
	"strings"
	"testing"

	"hearsay/api"
)

// prints asks for the text of records, whose first line tells the origin e.
func prints(t *testing.T, l []api.Record, want ...string) {
	t.Helper()
	text := strings.Join(append([]string{"$ORIGIN e."}, want...), "\n") + "\n"
	before := slices.Clone(l)
	if s, e := Print("\x01E\x00", l); s != text || e != api.OK {
		t.Errorf("Print(%s) = %q, %v, not %q", brief(l), s, e, text)
	}
	if !slices.Equal(l, before) {
		t.Errorf("Print changed its records: %s", brief(l))
	}
}

// fails asks for the error of records.
func fails(t *testing.T, l []api.Record, want api.Errno) {
	t.Helper()
	if s, e := Print(origin, l); s != "" || e != want {
		t.Errorf("Print(%s) = %.80q, %v, not %v", brief(l), s, e, want)
	}
}

// noRecords are records that can't be told: each is wrong in one way, and in those behind it in the order of the errors too.
func noRecords() map[api.Errno][]api.Record {
	bad := api.Data{Raw: "\x01"}
	all := map[api.Errno][]api.Record{}
	for _, n := range []api.Name{"", "a", "\x01a", "\x01a\x00\x00", api.Name(strings.Repeat("\x01a", 128) + "\x00")} {
		all[api.ErrOwner] = append(all[api.ErrOwner], api.Record{Name: n, Type: api.TypeA, Class: api.ClassIN, Data: one}, api.Record{Name: n, Type: api.TypeA, TTL: 1 << 31, Data: bad})
	}
	for _, class := range []uint16{0, 2, 3, 4, 255, 257, 65535} {
		all[api.ErrClass] = append(all[api.ErrClass], api.Record{Name: origin, Type: api.TypeA, Class: class, Data: one}, api.Record{Name: origin, Type: api.TypeA, Class: class, TTL: 1<<32 - 1, Data: bad})
	}
	for _, ttl := range []uint32{1 << 31, 1<<32 - 1} {
		all[api.ErrTTL] = append(all[api.ErrTTL], api.Record{Name: origin, Type: api.TypeA, Class: api.ClassIN, TTL: ttl, Data: one}, api.Record{Name: origin, Type: api.TypeA, Class: api.ClassIN, TTL: ttl, Data: bad})
	}
	for _, x := range []api.Record{
		{Type: api.TypeA}, {Type: api.TypeA, Data: bad}, {Type: api.TypeA, Data: api.Data{Raw: one.Raw, Host: origin}}, {Type: api.TypeNS}, {Type: api.TypeNS, Data: api.Data{Host: "a"}}, {Type: api.TypeMX, Data: api.Data{Host: origin, N: [5]uint32{65536}}},
		{Type: api.TypeTXT}, {Type: api.TypeTXT, Data: api.Data{Raw: "\x02a"}}, {Type: 99, Data: api.Data{Mail: origin}}, {Type: 99, Data: api.Data{Raw: strings.Repeat("a", api.MaxData+1)}}, {Type: api.TypeSOA, Data: api.Data{Host: origin}},
	} {
		x.Name, x.Class = origin, api.ClassIN
		all[api.ErrData] = append(all[api.ErrData], x)
	}
	return all
}

func TestPrint(t *testing.T) { // P9.2
	prints(t, nil)
	prints(t, []api.Record{})
	prints(t, []api.Record{addr(t, "W.e.", 9)}, "w.e. 9 IN A 1.1.1.1")
	prints(t, []api.Record{addr(t, "b.", 0), addr(t, "A.", api.MaxTTL), addr(t, "b.", 0), addr(t, ".", 1)}, "b. 0 IN A 1.1.1.1", "a. 2147483647 IN A 1.1.1.1", "b. 0 IN A 1.1.1.1", ". 1 IN A 1.1.1.1")
	prints(t, []api.Record{
		host(t, `\$TTL.\@.`, 5, api.TypeNS, "A.B.e."), host(t, `\;\(\).\032\"\\.\000\255.`, 5, api.TypeCNAME, "."), host(t, "*.E.", 5, api.TypePTR, `X\.Y.`),
		rec(t, "e.", 5, api.TypeSOA, api.Data{Host: named(t, "NS.e."), Mail: named(t, "M.E."), N: [5]uint32{1, 2, 3, 4, 1<<32 - 1}}),
		rec(t, "e.", 5, api.TypeMX, api.Data{Host: named(t, "M."), N: [5]uint32{65535}}),
		rec(t, "e.", 5, api.TypeSRV, api.Data{Host: named(t, "M."), N: [5]uint32{1, 2, 3}}),
		rec(t, "e.", 5, api.TypeTXT, api.Data{Raw: "\x03A \"\x00\x02;\n"}),
		rec(t, "e.", 5, api.TypeAAAA, api.Data{Raw: "\xab\xcd" + strings.Repeat("\x00", 13) + "\x01"}),
		rec(t, "e.", 5, 99, api.Data{Raw: "AB\xff"}),
		rec(t, "e.", 5, 0, api.Data{}),
	},
		`\$ttl.\@. 5 IN NS a.b.e.`, `\;\(\).\032\"\\.\000\255. 5 IN CNAME .`, `*.e. 5 IN PTR x\.y.`, "e. 5 IN SOA ns.e. m.e. 1 2 3 4 4294967295", "e. 5 IN MX 65535 m.", "e. 5 IN SRV 1 2 3 m.",
		`e. 5 IN TXT "A \"" "" ";\010"`, "e. 5 IN AAAA abcd:0:0:0:0:0:0:1", `e. 5 IN TYPE99 \# 3 4142ff`, `e. 5 IN TYPE0 \# 0`)
	if s, e := Print(api.Root, nil); s != "$ORIGIN .\n" || e != api.OK {
		t.Errorf("of the root: %q, %v", s, e)
	}
	if s, e := Print("\x01$\x03A.b\x00", nil); s != "$ORIGIN \\$.a\\.b.\n" || e != api.OK {
		t.Errorf("of an origin with marks: %q, %v", s, e)
	}
}

func TestPrintOfWhatIsWrong(t *testing.T) { // P9.2
	good := addr(t, "a.e.", 9)
	all := noRecords()
	for e, l := range all {
		for _, x := range l {
			fails(t, []api.Record{x}, e)
			fails(t, []api.Record{good, x, good}, e)
			for other, m := range all {
				for _, y := range m {
					fails(t, []api.Record{good, x, y}, e)
					fails(t, []api.Record{y, good, x}, other)
				}
			}
			if s, e := Print("e", []api.Record{x}); s != "" || e != api.ErrName {
				t.Errorf("with no origin: %q, %v", s, e)
			}
		}
	}
	for _, no := range []api.Name{"", "e", "\x01e", "\x01e\x00\x00", api.Name(strings.Repeat("\x01a", 128) + "\x00")} {
		for _, l := range [][]api.Record{nil, {good}, slices.Repeat([]api.Record{good}, api.MaxRecords+1)} {
			if s, e := Print(no, l); s != "" || e != api.ErrName {
				t.Errorf("Print of the origin %.10q = %.80q, %v", string(no), s, e)
			}
		}
	}
}

func TestPrintOfMany(t *testing.T) { // P9.2
	good := addr(t, "a.e.", 9)
	full := slices.Repeat([]api.Record{good}, api.MaxRecords)
	prints(t, full, slices.Repeat([]string{"a.e. 9 IN A 1.1.1.1"}, api.MaxRecords)...)
	fails(t, append(slices.Clone(full), good), api.ErrLong)
	for e, l := range noRecords() {
		for _, x := range l {
			fails(t, append(slices.Clone(full), x), api.ErrLong)
			fails(t, append([]api.Record{x}, full...), api.ErrLong)
			fails(t, append([]api.Record{x}, full[1:]...), e)
			fails(t, append(full[1:len(full):len(full)], x), e)
		}
	}
}

// sized are records whose text, with the line of the origin e., has this many bytes.
func sized(t *testing.T, size int) []api.Record {
	t.Helper()
	const least = len("e. 9 IN TXT \"\"\n")
	var l []api.Record
	for left := size - len("$ORIGIN e.\n"); left > 0; {
		n := min(left-least, 255)
		if rest := left - least - n; 0 < rest && rest < least {
			n -= least
		}
		l = append(l, rec(t, "e.", 9, api.TypeTXT, api.Data{Raw: string([]byte{byte(n)}) + strings.Repeat("x", n)}))
		left -= least + n
	}
	return l
}

func TestPrintOfALongText(t *testing.T) { // P9.2
	for _, size := range []int{1000, api.MaxText - 1, api.MaxText} {
		if s, e := Print(origin, sized(t, size)); len(s) != size || e != api.OK {
			t.Errorf("of %d bytes: %d, %v", size, len(s), e)
		}
	}
	for _, size := range []int{api.MaxText + 1, api.MaxText + 2, 2 * api.MaxText} {
		l := sized(t, size)
		fails(t, l, api.ErrLong)
		for e, wrong := range noRecords() {
			fails(t, append(slices.Clone(l), wrong[0]), e)
			fails(t, append([]api.Record{wrong[0]}, l...), e)
		}
	}
	big := rec(t, "e.", 9, 99, api.Data{Raw: strings.Repeat("\xff", api.MaxData)})
	if s, e := Print(origin, []api.Record{big}); e != api.OK || !strings.HasSuffix(s, `e. 9 IN TYPE99 \# 65535 `+strings.Repeat("ff", api.MaxData)+"\n") {
		t.Errorf("of any data of %d bytes: %.40q, %v", api.MaxData, s, e)
	}
	fails(t, []api.Record{big, big}, api.ErrLong)
	fails(t, slices.Repeat([]api.Record{big}, api.MaxRecords), api.ErrLong)
}
