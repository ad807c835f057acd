package zone

import (
	"slices"
	"strconv"
	"strings"
	"testing"

	"hearsay/api"
	"hearsay/name"
)

// refuses asks for the first fault of records.
func refuses(t testing.TB, origin api.Name, l []api.Record, want api.Errno, place int) {
	t.Helper()
	if z, at, e := New(origin, l); z != nil || at != place || e != want {
		t.Errorf("New(%.20q, %d records) = %v, %d, %v, not %d, %v", string(origin), len(l), z != nil, at, e, place, want)
	}
}

// wrong asks for the first fault of e.'s SOA and NS and these, its place counted among these.
func wrong(t testing.TB, want api.Errno, place int, more ...api.Record) {
	t.Helper()
	refuses(t, named(t, "e."), base(t, more...), want, 2+place)
}

func TestExamplesOfFaults(t *testing.T) { // P11.1
	e := named(t, "e.")
	alias, text := host(t, "w.e.", api.TypeCNAME, "a."), text(t, "w.e.")
	cut := host(t, "s.e.", api.TypeNS, "a.")
	refuses(t, e, base(t)[1:], api.ErrApex, 0)
	refuses(t, e, base(t)[:1], api.ErrNS, 0)
	wrong(t, api.ErrApex, 0, soa(t, "e.", 8))
	wrong(t, api.ErrApex, 0, soa(t, "w.e.", 7))
	if l := made(t, alias, host(t, "W.e.", api.TypeCNAME, "A.")).Records(); len(l) != 3 || l[2] != alias {
		t.Errorf("one CNAME twice: %v", l)
	}
	wrong(t, api.ErrAlone, 0, alias, text)
	wrong(t, api.ErrBelow, 1, cut, host(t, "t.s.e.", api.TypeNS, "b."))
	wrong(t, api.ErrBelow, 1, cut, rec(t, "s.e.", 1, api.TypeMX, api.Data{Host: e}))
	wrong(t, api.ErrOut, 0, addr(t, "f.", 1, "aaaa"))
	wrong(t, api.ErrClass, 0, classed(addr(t, "w.e.", 1, "aaaa"), 3))
	wrong(t, api.ErrType, 0, rec(t, "w.e.", 1, api.TypeANY, api.Data{}))
	wrong(t, api.ErrTTL, 0, addr(t, "w.e.", 1<<31, "aaaa"))
	wrong(t, api.ErrData, 0, addr(t, "w.e.", 1, "aaa"))
}

// classed is a record of another class.
func classed(r api.Record, class uint16) api.Record {
	r.Class = class
	return r
}

func TestOriginIsNoName(t *testing.T) { // P11.1
	for _, n := range noNames {
		for _, l := range [][]api.Record{nil, base(t), make([]api.Record, api.MaxRecords+1)} {
			refuses(t, n, l, api.ErrName, 0)
		}
	}
}

func TestManyRecords(t *testing.T) { // P11.1
	l := base(t)
	for i := len(l); i < api.MaxRecords; i++ {
		l = append(l, addr(t, strconv.Itoa(i)+".e.", uint32(i), "aaaa"))
	}
	if z := zoned(t, "e.", l); len(z.Records()) != api.MaxRecords {
		t.Errorf("%d records", len(z.Records()))
	}
	refuses(t, named(t, "e."), append(l, l[0]), api.ErrLong, 0)
	refuses(t, named(t, "e."), append(slices.Clip(l), addr(t, "f.", 1, "")), api.ErrLong, 0)
	refuses(t, named(t, "e."), make([]api.Record, api.MaxRecords+1), api.ErrLong, 0)
	refuses(t, named(t, "e."), make([]api.Record, api.MaxRecords), api.ErrOut, 0)
	if z := zoned(t, "e.", slices.Repeat(base(t), api.MaxRecords/2)); len(z.Records()) != 2 {
		t.Errorf("Records = %v", z.Records())
	}
	l[api.MaxRecords-1].Data.Raw = "aaa"
	refuses(t, named(t, "e."), l, api.ErrData, api.MaxRecords-1)
}

func TestManyAtOneName(t *testing.T) { // P11.1, P11.3
	l := base(t)
	for i := range api.MaxRecords - len(l) {
		l = append(l, rec(t, name.Text(longest), 1, uint16(256+i), api.Data{}))
	}
	slices.Reverse(l)
	origin := longest[len(longest)-3:]
	l[len(l)-1].Name, l[len(l)-2].Name = origin, origin
	z, at, e := New(origin, l)
	if e != api.OK || len(z.Types(longest)) != len(l)-2 || len(z.Set(longest, 256)) != 1 {
		t.Errorf("New = %d, %v", at, e)
	}
	l[0].Type = api.TypeCNAME
	l[0].Data.Host = origin
	refuses(t, origin, l, api.ErrAlone, 0)
}

func TestErrOut(t *testing.T) { // P11.1
	for _, s := range []string{".", "f.", "ee.", "w.f.", "e.f.", "w\\.e.", "\\197."} {
		wrong(t, api.ErrOut, 1, text(t, "w.e."), addr(t, s, 1, "aaaa"), addr(t, "f.", 1, "aaaa"))
	}
	for _, n := range noNames {
		r := api.Record{Name: n, Type: api.TypeA, Class: api.ClassIN, Data: api.Data{Raw: "aaaa"}}
		wrong(t, api.ErrOut, 0, r)
	}
	refuses(t, named(t, "a.e."), base(t), api.ErrOut, 0)
	made(t, addr(t, "W.E.", 1, "aaaa"), addr(t, "e.e.", 1, "aaaa"), addr(t, "E.", 1, "aaaa"))
}

func TestErrClass(t *testing.T) { // P11.1
	for _, class := range []uint16{0, 2, 3, 4, 254, 255, 257, 65535} {
		wrong(t, api.ErrClass, 1, text(t, "w.e."), classed(text(t, "w.e."), class))
		wrong(t, api.ErrClass, 0, classed(soa(t, "e.", 7), class))
	}
}

func TestErrType(t *testing.T) { // P11.1
	for kind := range 1 << 16 {
		r := rec(t, "w.e.", 1, uint16(kind), api.Data{})
		z, at, e := New(named(t, "e."), base(t, r))
		switch {
		case kind == 0 || kind == 41 || 249 <= kind && kind <= 255:
			if z != nil || at != 2 || e != api.ErrType {
				t.Errorf("the type %d: %d, %v", kind, at, e)
			}
		case slices.Contains([]int{1, 2, 5, 6, 12, 15, 16, 28, 33}, kind):
			if z != nil || at != 2 || e != api.ErrData {
				t.Errorf("the type %d: %d, %v", kind, at, e)
			}
		case z == nil || at != 0 || e != api.OK || !slices.Equal(z.Set(r.Name, r.Type), []api.Record{r}):
			t.Errorf("the type %d: %d, %v", kind, at, e)
		}
	}
}

func TestErrTTL(t *testing.T) { // P11.1
	for _, ttl := range []uint32{1 << 31, 1<<31 + 1, 1<<32 - 1} {
		wrong(t, api.ErrTTL, 1, addr(t, "w.e.", 0, "aaaa"), addr(t, "w.e.", ttl, "aaaa"))
	}
	z := made(t, addr(t, "w.e.", api.MaxTTL, "aaaa"), addr(t, "x.e.", 0, "aaaa"), addr(t, "x.e.", api.MaxTTL, "bbbb"))
	tells(t, "Set", z.Set(named(t, "w.e."), api.TypeA), addr(t, "w.e.", api.MaxTTL, "aaaa"))
	tells(t, "Set", z.Set(named(t, "x.e."), api.TypeA), addr(t, "x.e.", 0, "aaaa"), addr(t, "x.e.", 0, "bbbb"))
}

func TestErrData(t *testing.T) { // P11.1
	e := named(t, "e.")
	for _, x := range []struct {
		kind uint16
		d    api.Data
	}{
		{api.TypeA, api.Data{}}, {api.TypeA, api.Data{Raw: "aaaaa"}}, {api.TypeA, api.Data{Raw: "aaaa", Host: e}}, {api.TypeA, api.Data{Raw: "aaaa", N: [5]uint32{4: 1}}},
		{api.TypeNS, api.Data{}}, {api.TypeNS, api.Data{Host: "e"}}, {api.TypeNS, api.Data{Host: e, Raw: "a"}}, {api.TypeCNAME, api.Data{Host: e, Mail: e}}, {api.TypePTR, api.Data{Raw: "aaaa"}},
		{api.TypeSOA, api.Data{Host: e}}, {api.TypeSOA, api.Data{Mail: e}}, {api.TypeMX, api.Data{Host: e, N: [5]uint32{1 << 16}}}, {api.TypeMX, api.Data{Host: e, N: [5]uint32{1, 1}}},
		{api.TypeTXT, api.Data{}}, {api.TypeTXT, api.Data{Raw: "\x02a"}}, {api.TypeAAAA, api.Data{Raw: "aaaa"}}, {api.TypeSRV, api.Data{Host: e, N: [5]uint32{1, 1, 1 << 16}}},
		{99, api.Data{Host: e}}, {99, api.Data{Raw: strings.Repeat("a", api.MaxData+1)}},
	} {
		wrong(t, api.ErrData, 1, text(t, "w.e."), rec(t, "w.e.", 1, x.kind, x.d))
	}
}

func TestOneRecordsFaults(t *testing.T) { // P11.1
	// Of one record the first fault is told, in this order; of several records that of the first one.
	all := []struct {
		errno api.Errno
		mar   func(*api.Record)
	}{
		{api.ErrOut, func(r *api.Record) { r.Name = "\x01f\x00" }},
		{api.ErrClass, func(r *api.Record) { r.Class = 3 }},
		{api.ErrType, func(r *api.Record) { r.Type = 249 }},
		{api.ErrTTL, func(r *api.Record) { r.TTL = 1 << 31 }},
		{api.ErrData, func(r *api.Record) { r.Data.Host = "a" }},
	}
	for some := 1; some < 1<<len(all); some++ {
		r := addr(t, "w.e.", 1, "aaaa")
		first := api.OK
		for i, x := range all {
			if some>>i&1 == 1 {
				x.mar(&r)
				if first == api.OK {
					first = x.errno
				}
			}
		}
		wrong(t, first, 0, r)
		for _, x := range all {
			behind := addr(t, "v.e.", 1, "aaaa")
			x.mar(&behind)
			wrong(t, first, 1, text(t, "w.e."), r, behind)
			refuses(t, named(t, "e."), []api.Record{r, behind}, first, 0)
		}
	}
}

func TestErrApex(t *testing.T) { // P11.1
	e, ns := named(t, "e."), host(t, "e.", api.TypeNS, "a.")
	refuses(t, e, nil, api.ErrApex, 0)
	refuses(t, e, []api.Record{ns, text(t, "w.e.")}, api.ErrApex, 0)
	refuses(t, e, []api.Record{ns, soa(t, "w.e.", 7)}, api.ErrApex, 1)
	refuses(t, e, []api.Record{ns, soa(t, "w.e.", 7), soa(t, "e.", 7)}, api.ErrApex, 1)
	refuses(t, e, []api.Record{ns, soa(t, "e.", 7), soa(t, "w.e.", 7), soa(t, "e.", 8)}, api.ErrApex, 2)
	refuses(t, e, []api.Record{ns, soa(t, "e.", 7), soa(t, "E.", 7), soa(t, "e.", 8), soa(t, "w.e.", 7)}, api.ErrApex, 3)
	refuses(t, e, []api.Record{soa(t, "e.", 7), soa(t, "e.", 8), soa(t, "e.", 8)}, api.ErrApex, 1)
	first := soa(t, "e.", 7)
	for i := range first.Data.N {
		other := first
		other.Data.N[i]--
		wrong(t, api.ErrApex, 0, other)
	}
	other := first
	other.Data.Mail = named(t, "m.f.")
	wrong(t, api.ErrApex, 0, other)
	other = first
	other.Data.Host = named(t, "m.f.")
	wrong(t, api.ErrApex, 0, other)
	other = loud(first)
	other.TTL = 3
	other.Data.N[0] = 7
	if z := made(t, other); z.SOA().TTL != 3 || len(z.Records()) != 2 {
		t.Errorf("Records = %v", z.Records())
	}
}

func TestErrNS(t *testing.T) { // P11.1
	e, own := named(t, "e."), soa(t, "e.", 7)
	refuses(t, e, []api.Record{own, host(t, "s.e.", api.TypeNS, "a.")}, api.ErrNS, 0)
	refuses(t, e, []api.Record{text(t, "w.e."), addr(t, "e.", 1, "aaaa"), own}, api.ErrNS, 0)
	zoned(t, "e.", []api.Record{own, host(t, "E.", api.TypeNS, "a.")})
}

func TestErrAlone(t *testing.T) { // P11.1
	alias, other, far := host(t, "w.e.", api.TypeCNAME, "a."), host(t, "w.e.", api.TypeCNAME, "b."), host(t, "v.e.", api.TypeCNAME, "a.")
	words, more := text(t, "w.e."), addr(t, "W.e.", 1, "aaaa")
	for _, x := range []struct {
		at int
		l  []api.Record
	}{
		{0, []api.Record{alias, words}}, {0, []api.Record{words, alias}}, {0, []api.Record{words, more, alias}}, {0, []api.Record{alias, other}}, {0, []api.Record{alias, loud(alias), words}}, {0, []api.Record{alias, alias, other}},
		{1, []api.Record{far, alias, words}}, {2, []api.Record{far, text(t, "x.e."), more, far, other}}, {1, []api.Record{text(t, "x.w.e."), loud(alias), words}}, {0, []api.Record{far, words, alias, text(t, "v.e.")}},
		{0, []api.Record{host(t, "s.e.", api.TypeNS, "a."), host(t, "S.e.", api.TypeCNAME, "a.")}},
	} {
		wrong(t, api.ErrAlone, x.at, x.l...)
	}
	refuses(t, named(t, "e."), base(t, host(t, "E.", api.TypeCNAME, "a.")), api.ErrAlone, 0)
	refuses(t, named(t, "e."), append([]api.Record{host(t, "E.", api.TypeCNAME, "a.")}, base(t)...), api.ErrAlone, 0)
	short := alias
	short.TTL = 1
	z := made(t, alias, loud(short), far, alias, text(t, "x.w.e."), host(t, "*.e.", api.TypeCNAME, "w.e."))
	tells(t, "Set", z.Set(alias.Name, api.TypeCNAME), short)
}

func TestErrBelow(t *testing.T) { // P11.1
	cut, again := host(t, "s.e.", api.TypeNS, "a."), host(t, "S.e.", api.TypeNS, "b.")
	v6 := rec(t, "x.s.e.", 1, api.TypeAAAA, api.Data{Raw: "aaaabbbbccccdddd"})
	for _, x := range []struct {
		at int
		l  []api.Record
	}{
		{1, []api.Record{cut, text(t, "s.e.")}}, {0, []api.Record{text(t, "s.e."), cut}}, {1, []api.Record{addr(t, "S.e.", 1, "aaaa"), text(t, "S.e."), cut}}, {2, []api.Record{again, addr(t, "a.s.e.", 1, "aaaa"), text(t, "b.a.s.e.")}},
		{1, []api.Record{cut, host(t, "t.S.e.", api.TypeNS, "b.")}}, {0, []api.Record{host(t, "t.S.e.", api.TypeNS, "b."), cut}}, {0, []api.Record{host(t, "u.t.s.e.", api.TypeNS, "b."), host(t, "t.s.e.", api.TypeNS, "b."), cut}},
		{1, []api.Record{host(t, "t.s.e.", api.TypeNS, "a."), host(t, "a.t.s.e.", api.TypeNS, "a.")}}, {1, []api.Record{cut, host(t, "x.s.e.", api.TypeCNAME, "a.")}}, {1, []api.Record{cut, host(t, "s.e.", api.TypePTR, "a.")}}, {1, []api.Record{cut, rec(t, "*.s.e.", 1, 99, api.Data{})}},
		{2, []api.Record{text(t, "w.e."), host(t, "w.v.e.", api.TypeNS, "a."), text(t, "w.v.e.")}},
	} {
		wrong(t, api.ErrBelow, x.at, x.l...)
	}
	z := made(t, cut, again, addr(t, "s.e.", 1, "aaaa"), v6, addr(t, "x.y.s.e.", 1, "aaaa"), text(t, "ss.e."), text(t, "e."), text(t, "s\\.s.e."), host(t, "t.v.e.", api.TypeNS, "a."), text(t, "v.e."), host(t, "u.v.e.", api.TypeNS, "a."))
	if len(z.Records()) != 13 || len(z.Set(named(t, "s.e."), api.TypeNS)) != 2 {
		t.Errorf("Records = %v", z.Records())
	}
}

func TestFirstFault(t *testing.T) { // P11.1
	// What stands further ahead here is told first, wherever its record stands.
	e := named(t, "e.")
	broken := []struct {
		errno api.Errno
		l     []api.Record
		at    int
	}{
		{api.ErrData, []api.Record{addr(t, "a.e.", 1, "aaa")}, 0},
		{api.ErrApex, []api.Record{soa(t, "b.e.", 7)}, 0},
		{api.ErrAlone, []api.Record{text(t, "c.e."), host(t, "c.e.", api.TypeCNAME, "a.")}, 0},
		{api.ErrBelow, []api.Record{host(t, "d.e.", api.TypeNS, "a."), text(t, "d.e.")}, 1},
	}
	for i, x := range broken {
		wrong(t, x.errno, x.at, x.l...)
		for _, y := range broken[i+1:] {
			wrong(t, x.errno, x.at, append(slices.Clip(x.l), y.l...)...)
			wrong(t, x.errno, len(y.l)+x.at, append(slices.Clip(y.l), x.l...)...)
		}
	}
	bare := []api.Record{soa(t, "e.", 7)} // without an NS
	for _, x := range broken {
		want, at := x.errno, 1+x.at
		if want == api.ErrAlone || want == api.ErrBelow {
			want, at = api.ErrNS, 0
		}
		refuses(t, e, append(slices.Clip(bare), x.l...), want, at)
		if want != api.ErrData && want != api.ErrApex {
			refuses(t, e, append(base(t)[1:], x.l...), api.ErrApex, 0)
		}
	}
	refuses(t, e, []api.Record{text(t, "w.e.")}, api.ErrApex, 0) // neither an SOA nor an NS
}
