package zone

import (
	"slices"
	"strings"
	"sync"
	"testing"

	"hearsay/api"
	"hearsay/name"
)

// longest is a name of 255 bytes in 127 labels.
var longest = api.Name(strings.Repeat("\x01a", 127) + "\x00")

// noNames are bytes that are no names.
var noNames = []api.Name{
	"", "e", "e.", "\x01", "\x01e", "\x02e\x00", "\x00\x00", "\x01e\x00\x00", "\x01a\x00\x01e\x00", "\xc0\x00",
	api.Name("\x40" + strings.Repeat("a", 64) + "\x00"), "\x01a" + longest, api.Name(strings.Repeat("\x3f", 70000)),
}

// named is a name by its text, whole.
func named(t testing.TB, text string) api.Name {
	t.Helper()
	n, e := name.Parse(text, api.Root)
	if e != api.OK {
		t.Fatalf("Parse(%q): %v", text, e)
	}
	return n
}

// rec is a record of the class that is served.
func rec(t testing.TB, owner string, ttl uint32, kind uint16, d api.Data) api.Record {
	t.Helper()
	return api.Record{Name: named(t, owner), Type: kind, Class: api.ClassIN, TTL: ttl, Data: d}
}

// addr is a record of type A.
func addr(t testing.TB, owner string, ttl uint32, raw string) api.Record {
	t.Helper()
	return rec(t, owner, ttl, api.TypeA, api.Data{Raw: raw})
}

// text is a record of type TXT, of TTL 60.
func text(t testing.TB, owner string) api.Record {
	t.Helper()
	return rec(t, owner, 60, api.TypeTXT, api.Data{Raw: "\x01X"})
}

// host is a record whose data are a name, of TTL 60.
func host(t testing.TB, owner string, kind uint16, to string) api.Record {
	t.Helper()
	return rec(t, owner, 60, kind, api.Data{Host: named(t, to)})
}

// soa is an SOA of this serial.
func soa(t testing.TB, owner string, serial uint32) api.Record {
	t.Helper()
	return rec(t, owner, 60, api.TypeSOA, api.Data{Host: named(t, "ns.e."), Mail: named(t, "m.e."), N: [5]uint32{serial, 1, 2, 3, 1<<32 - 1}})
}

// base are the SOA and the NS of e., and these behind them, in a list that has no more room.
func base(t testing.TB, more ...api.Record) []api.Record {
	t.Helper()
	return slices.Clip(append([]api.Record{soa(t, "e.", 7), host(t, "e.", api.TypeNS, "ns.e.")}, more...))
}

// zoned is the zone of these records.
func zoned(t testing.TB, origin string, l []api.Record) *Zone {
	t.Helper()
	z, at, e := New(named(t, origin), l)
	if e != api.OK || at != 0 || z == nil {
		t.Fatalf("New(%s, %v) = %v, %d, %v", origin, l, z, at, e)
	}
	return z
}

// made is the zone of e. with these records.
func made(t testing.TB, more ...api.Record) *Zone {
	t.Helper()
	return zoned(t, "e.", base(t, more...))
}

// tells holds records against those that should be told.
func tells(t testing.TB, what string, l []api.Record, want ...api.Record) {
	t.Helper()
	if !slices.Equal(l, want) {
		t.Errorf("%s = %v, not %v", what, l, want)
	}
}

func TestExamples(t *testing.T) { // P11.1, P11.3, P11.4
	z := made(t, addr(t, "W.e.", 9, "\x01\x01\x01\x01"), addr(t, "w.e.", 5, "\x01\x01\x01\x01"), addr(t, "w.e.", 7, "\x00\x00\x00\x01"))
	tells(t, "Set(W.E., A)", z.Set(named(t, "W.E."), api.TypeA), addr(t, "w.e.", 5, "\x00\x00\x00\x01"), addr(t, "w.e.", 5, "\x01\x01\x01\x01"))
	z = made(t, addr(t, "x.y.e.", 1, "aaaa"))
	if !z.Exists(named(t, "y.e.")) || len(z.Types(named(t, "y.e."))) != 0 {
		t.Error("y.e. is no empty name")
	}
	if n, ok := z.Encloser(named(t, "q.y.e.")); n != named(t, "y.e.") || !ok {
		t.Errorf("Encloser(q.y.e.) = %q, %v", string(n), ok)
	}
	if n, ok := z.Encloser(named(t, "q.f.")); n != "" || ok {
		t.Errorf("Encloser(q.f.) = %q, %v", string(n), ok)
	}
	z = made(t, host(t, "s.e.", api.TypeNS, "a.s.e."), addr(t, "a.s.e.", 1, "aaaa"))
	for _, x := range []struct {
		asked, cut string
		ok         bool
	}{{"b.a.s.e.", "s.e.", true}, {"s.e.", "s.e.", true}, {"e.", "", false}} {
		if n, ok := z.Cut(named(t, x.asked)); ok != x.ok || ok && n != named(t, x.cut) || !ok && n != "" {
			t.Errorf("Cut(%s) = %q, %v", x.asked, string(n), ok)
		}
	}
}

func TestOriginAndSOA(t *testing.T) { // P11.2
	other := soa(t, "W.E.", 1<<32-1)
	other.TTL = api.MaxTTL
	other.Data.Host, other.Data.Mail = named(t, "NS.a."), named(t, "M.")
	want := other
	want.Name, want.Data.Host, want.Data.Mail = named(t, "w.e."), named(t, "ns.a."), named(t, "m.")
	z := zoned(t, "w.E.", []api.Record{host(t, "W.e.", api.TypeNS, "A."), other})
	if z.Origin() != named(t, "w.e.") || z.SOA() != want || z.Serial() != 1<<32-1 {
		t.Errorf("Origin %q, SOA %v, Serial %d", string(z.Origin()), z.SOA(), z.Serial())
	}
	tells(t, "Records", z.Records(), want, host(t, "w.e.", api.TypeNS, "a."))
	once, more := soa(t, "e.", 0), soa(t, "E.", 0)
	more.TTL, more.Data.Mail = 5, named(t, "M.E.")
	once.TTL = 9
	z = zoned(t, "e.", []api.Record{once, more, once, host(t, "e.", api.TypeNS, "a.")})
	want = soa(t, "e.", 0)
	want.TTL = 5
	if z.SOA() != want || z.Serial() != 0 {
		t.Errorf("SOA %v, Serial %d", z.SOA(), z.Serial())
	}
}

func TestRecords(t *testing.T) { // P11.1, P11.2
	want := []api.Record{
		soa(t, "e.", 7),
		addr(t, "e.", 4, "\x01\x02\x03\x04"),
		host(t, "e.", api.TypeNS, "a.e."), host(t, "e.", api.TypeNS, "ns.e."), host(t, "e.", api.TypeNS, "a.ns.e."),
		text(t, "e."),
		addr(t, "*.e.", 1, "aaaa"),
		addr(t, "a.e.", 1, "aaaa"), addr(t, "a.e.", 1, "aaab"), addr(t, "a.e.", 1, "baaa"), addr(t, "a.e.", 1, "\xffaaa"),
		rec(t, "a.e.", 2, api.TypeMX, api.Data{Host: named(t, "b."), N: [5]uint32{1}}), rec(t, "a.e.", 2, api.TypeMX, api.Data{Host: named(t, "b."), N: [5]uint32{9}}), rec(t, "a.e.", 2, api.TypeMX, api.Data{Host: named(t, "c."), N: [5]uint32{0}}),
		rec(t, "a.e.", 3, 248, api.Data{}), rec(t, "a.e.", 3, 256, api.Data{Raw: "x"}), rec(t, "a.e.", 3, 65535, api.Data{Raw: "x"}),
		host(t, "x.a.e.", api.TypeCNAME, "e."),
		text(t, "aa.e."),
		host(t, "s.e.", api.TypeNS, "x."),
		rec(t, "s.e.", 0, api.TypeAAAA, api.Data{Raw: "aaaabbbbccccdddd"}),
		addr(t, "\\000.s.e.", 1, "aaaa"),
	}
	tells(t, "Records", zoned(t, "e.", want).Records(), want...)
	// Backwards, twice, in capitals, and with greater TTLs it is the same.
	var l []api.Record
	for _, r := range want {
		l = append(l, r, loud(r))
		l[len(l)-2].TTL += 3
	}
	slices.Reverse(l)
	z := zoned(t, "E.", l)
	tells(t, "Records", z.Records(), want...)
	for _, r := range want {
		if !slices.Contains(z.Set(loud(r).Name, r.Type), r) {
			t.Errorf("%v is not in its set", r)
		}
	}
}

// loud is a record with all names in capitals.
func loud(r api.Record) api.Record {
	r.Name, r.Data.Host, r.Data.Mail = upper(r.Name), upper(r.Data.Host), upper(r.Data.Mail)
	return r
}

// upper is a name with its letters as capitals.
func upper(n api.Name) api.Name {
	b := []byte(n)
	for i, c := range b {
		if 'a' <= c && c <= 'z' {
			b[i] = c - 'a' + 'A'
		}
	}
	return api.Name(b)
}

func TestSet(t *testing.T) { // P11.3
	z := made(t, addr(t, "w.e.", 9, "bbbb"), text(t, "w.e."), addr(t, "w.e.", 3, "aaaa"), addr(t, "x.w.e.", 1, "cccc"), addr(t, "E.", 2, "dddd"))
	for _, w := range []string{"w.e.", "W.e.", "w.E.", "W.E."} {
		tells(t, "Set of "+w, z.Set(named(t, w), api.TypeA), addr(t, "w.e.", 3, "aaaa"), addr(t, "w.e.", 3, "bbbb"))
		tells(t, "Set of "+w, z.Set(named(t, w), api.TypeTXT), text(t, "w.e."))
	}
	tells(t, "Set(e., SOA)", z.Set(named(t, "E."), api.TypeSOA), soa(t, "e.", 7))
	tells(t, "Set(e., NS)", z.Set(named(t, "e."), api.TypeNS), host(t, "e.", api.TypeNS, "ns.e."))
	tells(t, "Set(e., A)", z.Set(named(t, "e."), api.TypeA), addr(t, "e.", 2, "dddd"))
	for _, kind := range []uint16{0, 3, api.TypeNS, api.TypeCNAME, api.TypeSOA, 15, 17, api.TypeOPT, api.TypeANY, 65535} {
		tells(t, "Set of a type that is not there", z.Set(named(t, "w.e."), kind))
	}
	for _, w := range []string{".", "f.", "ee.", "a.w.e.", "ww.e.", "w\\.e.", "w.", "w.f.", "x.e."} {
		tells(t, "Set of "+w, z.Set(named(t, w), api.TypeA))
	}
	for _, n := range noNames {
		tells(t, "Set of no name", z.Set(n, api.TypeA))
	}
}

func TestTypes(t *testing.T) { // P11.3
	z := made(t, text(t, "w.e."), addr(t, "W.e.", 9, "bbbb"), rec(t, "w.E.", 1, 65535, api.Data{}), addr(t, "w.e.", 3, "aaaa"), rec(t, "w.e.", 1, 256, api.Data{}), host(t, "x.y.e.", api.TypeCNAME, "a."))
	for _, x := range []struct {
		n    string
		want []uint16
	}{
		{"w.e.", []uint16{1, 16, 256, 65535}}, {"W.E.", []uint16{1, 16, 256, 65535}}, {"e.", []uint16{2, 6}}, {"x.Y.e.", []uint16{5}},
		{"y.e.", nil}, {"a.w.e.", nil}, {".", nil}, {"f.", nil}, {"w.", nil},
	} {
		if l := z.Types(named(t, x.n)); !slices.Equal(l, x.want) {
			t.Errorf("Types(%s) = %v, not %v", x.n, l, x.want)
		}
	}
	for _, n := range noNames {
		if l := z.Types(n); len(l) != 0 {
			t.Errorf("Types(%.20q) = %v", string(n), l)
		}
	}
}

func TestExists(t *testing.T) { // P11.3
	z := zoned(t, "f.E.", []api.Record{soa(t, "f.e.", 1), host(t, "f.e.", api.TypeNS, "a."), text(t, "x.Y.f.e."), host(t, "s.f.e.", api.TypeNS, "b."), addr(t, "a.b.s.f.e.", 1, "aaaa")})
	for _, x := range []struct {
		n  string
		is bool
	}{
		{"f.e.", true}, {"F.E.", true}, {"y.f.e.", true}, {"X.y.f.e.", true}, {"s.f.e.", true}, {"b.s.F.e.", true}, {"a.b.s.f.e.", true},
		{".", false}, {"e.", false}, {"f.", false}, {"ff.e.", false}, {"x.f.e.", false}, {"z.x.y.f.e.", false}, {"a.s.f.e.", false}, {"y\\.f.e.", false}, {"g.e.", false}, {"y.", false},
	} {
		if z.Exists(named(t, x.n)) != x.is {
			t.Errorf("Exists(%s) is not %v", x.n, x.is)
		}
	}
	for _, n := range noNames {
		if z.Exists(n) {
			t.Errorf("%.20q exists", string(n))
		}
	}
}

func TestCut(t *testing.T) { // P11.4
	z := made(t, host(t, "S.e.", api.TypeNS, "a."), host(t, "s.E.", api.TypeNS, "b."), addr(t, "a.s.e.", 1, "aaaa"), host(t, "u.v.e.", api.TypeNS, "a."), host(t, "w.v.e.", api.TypeNS, "a."), text(t, "x.e."), host(t, "*.e.", api.TypeNS, "a."))
	for _, x := range [][2]string{
		{"s.e.", "s.e."}, {"S.E.", "s.e."}, {"A.s.e.", "s.e."}, {"q.q.Q.S.e.", "s.e."}, {"u.v.e.", "u.v.e."}, {"s.u.V.e.", "u.v.e."}, {"w.v.e.", "w.v.e."}, {"*.e.", "*.e."}, {"a.*.e.", "*.e."},
		{"e.", ""}, {"v.e.", ""}, {"x.e.", ""}, {"q.x.e.", ""}, {"q.e.", ""}, {"q.v.e.", ""}, {"s.", ""}, {"s.f.", ""}, {"ss.e.", ""}, {"a\\.s.e.", ""}, {".", ""}, {"f.", ""}, {"s.e.f.", ""},
	} {
		var want api.Name
		if x[1] != "" {
			want = named(t, x[1])
		}
		if n, ok := z.Cut(named(t, x[0])); n != want || ok != (want != "") {
			t.Errorf("Cut(%s) = %q, %v, not %q", x[0], string(n), ok, string(want))
		}
	}
	for _, n := range noNames {
		if cut, ok := z.Cut(n); cut != "" || ok {
			t.Errorf("Cut(%.20q) = %q, %v", string(n), string(cut), ok)
		}
	}
	if n, ok := made(t).Cut(named(t, "a.e.")); n != "" || ok {
		t.Errorf("Cut, where there is none = %q, %v", string(n), ok)
	}
}

func TestEncloser(t *testing.T) { // P11.4
	z := zoned(t, "F.e.", []api.Record{soa(t, "f.e.", 1), host(t, "f.e.", api.TypeNS, "a."), text(t, "x.Y.f.e."), host(t, "s.f.e.", api.TypeNS, "b."), addr(t, "a.b.s.f.e.", 1, "aaaa")})
	for _, x := range [][2]string{
		{"f.e.", "f.e."}, {"F.E.", "f.e."}, {"q.F.e.", "f.e."}, {"y.q.f.e.", "f.e."}, {"y.f.e.", "y.f.e."}, {"q.q.Y.f.e.", "y.f.e."}, {"x.y.f.e.", "x.y.f.e."}, {"q.X.Y.F.E.", "x.y.f.e."}, {"q.b.s.f.e.", "b.s.f.e."}, {"x.y.x.y.f.e.", "x.y.f.e."},
	} {
		if n, ok := z.Encloser(named(t, x[0])); n != named(t, x[1]) || !ok {
			t.Errorf("Encloser(%s) = %q, %v, not %s", x[0], string(n), ok, x[1])
		}
	}
	outside := append([]api.Name{}, noNames...)
	for _, s := range []string{".", "e.", "f.", "q.e.", "ff.e.", "q.f.", "f.e.f.", "f\\.e."} {
		outside = append(outside, named(t, s))
	}
	for _, n := range outside {
		if top, ok := z.Encloser(n); top != "" || ok {
			t.Errorf("Encloser(%.20q) = %q, %v", string(n), string(top), ok)
		}
	}
}

func TestSame(t *testing.T) { // P11.5
	w := addr(t, "w.e.", 5, "aaaa")
	z := made(t, w)
	for _, o := range []*Zone{z, made(t, w), made(t, w, loud(w)), zoned(t, "E.", []api.Record{w, base(t)[1], base(t)[0]}), zoned(t, "e.", z.Records())} {
		if !z.Same(o) || !o.Same(z) {
			t.Errorf("%v and %v are not the same", z.Records(), o.Records())
		}
	}
	fresh, other := w, w
	fresh.TTL++
	other.Data.Raw = "aaab"
	serial := []api.Record{soa(t, "e.", 8), base(t)[1], w}
	for _, o := range []*Zone{made(t), made(t, fresh), made(t, other), made(t, w, other), made(t, w, text(t, "e.")), zoned(t, "e.", serial)} {
		if z.Same(o) || o.Same(z) {
			t.Errorf("%v and %v are the same", z.Records(), o.Records())
		}
	}
	l := []api.Record{soa(t, "a.e.", 7), host(t, "a.e.", api.TypeNS, "a.")}
	if x := zoned(t, "a.e.", l); x.Same(z) || z.Same(x) {
		t.Error("of two origins")
	}
}

func TestNil(t *testing.T) { // P11.2, P11.3, P11.4, P11.5
	var none *Zone
	for _, z := range []*Zone{none, {}} {
		if z.Origin() != "" || z.Serial() != 0 || z.SOA() != (api.Record{}) || len(z.Records()) != 0 {
			t.Errorf("Origin %q, Serial %d, SOA %v, Records %v", string(z.Origin()), z.Serial(), z.SOA(), z.Records())
		}
		for _, n := range append([]api.Name{api.Root, named(t, "e."), longest}, noNames...) {
			cut, is := z.Cut(n)
			top, ok := z.Encloser(n)
			if len(z.Set(n, api.TypeA)) != 0 || len(z.Types(n)) != 0 || z.Exists(n) || is || ok || cut != "" || top != "" {
				t.Errorf("a zone that is none knows of %.20q", string(n))
			}
		}
		if z.Same(made(t)) || made(t).Same(z) {
			t.Error("a zone that is none is the same as one")
		}
	}
	if none.Same(none) || none.Same(&Zone{}) {
		t.Error("a nil zone is the same as something")
	}
}

func TestRoot(t *testing.T) { // P11.1, P11.2, P11.3, P11.4
	l := []api.Record{soa(t, ".", 3), host(t, ".", api.TypeNS, "a."), host(t, "E.", api.TypeNS, "b.e."), addr(t, "b.e.", 1, "aaaa"), text(t, "x.f."), rec(t, name.Text(longest), 1, api.TypeA, api.Data{Raw: "aaaa"})}
	z := zoned(t, ".", l)
	if z.Origin() != api.Root || z.Serial() != 3 || len(z.Records()) != len(l) || !z.Exists(api.Root) || !z.Exists(longest) {
		t.Errorf("Origin %q, Records %v", string(z.Origin()), z.Records())
	}
	if n, ok := z.Cut(named(t, "a.B.e.")); n != named(t, "e.") || !ok {
		t.Errorf("Cut = %q, %v", string(n), ok)
	}
	if n, ok := z.Cut(api.Root); n != "" || ok {
		t.Errorf("Cut of the root = %q, %v", string(n), ok)
	}
	if n, ok := z.Encloser(named(t, "q.g.")); n != api.Root || !ok {
		t.Errorf("Encloser = %q, %v", string(n), ok)
	}
	deep := zoned(t, name.Text(longest), []api.Record{soa(t, name.Text(longest), 1), host(t, name.Text(longest), api.TypeNS, ".")})
	if n, ok := deep.Encloser(upper(longest)); n != longest || !ok || len(deep.Records()) != 2 || deep.Exists(longest[2:]) {
		t.Errorf("Encloser = %q, %v", string(n), ok)
	}
}

func TestMemory(t *testing.T) { // R3, of P11.1, P11.2, P11.3
	more := []api.Record{addr(t, "W.e.", 9, "bbbb"), addr(t, "w.e.", 5, "aaaa"), host(t, "S.e.", api.TypeNS, "A.")}
	room := append(base(t, more...), text(t, "z.e."), text(t, "z.e."))
	l := room[: len(room)-2 : len(room)]
	before := slices.Clone(room)
	z := zoned(t, "e.", l)
	if !slices.Equal(room, before) {
		t.Errorf("what was handed in is %v", room)
	}
	asked := z.Records()
	clear(room)
	tells(t, "Records", z.Records(), asked...)
	for _, ask := range []func() []api.Record{z.Records, func() []api.Record { return z.Set(named(t, "w.e."), api.TypeA) }, func() []api.Record { return z.Set(named(t, "e."), api.TypeSOA) }} {
		first := ask()
		want := slices.Clone(first)
		clear(first[:cap(first)])
		tells(t, "what is asked again", ask(), want...)
	}
	kinds := z.Types(named(t, "e."))
	clear(kinds[:cap(kinds)])
	if l := z.Types(named(t, "e.")); !slices.Equal(l, []uint16{2, 6}) {
		t.Errorf("Types = %v", l)
	}
	tells(t, "Records", z.Records(), asked...)
}

func TestSeveralAskAtOneTime(t *testing.T) { // P11.2, P11.3, P11.4, P11.5
	z := made(t, addr(t, "w.e.", 9, "bbbb"), host(t, "s.e.", api.TypeNS, "a."))
	want := z.Records()
	var wait sync.WaitGroup
	wrong := make([]bool, 8)
	for i := range wrong {
		wait.Go(func() {
			for range 100 {
				cut, _ := z.Cut("\x01a\x01s\x01e\x00")
				top, _ := z.Encloser("\x01a\x01w\x01e\x00")
				wrong[i] = wrong[i] || cut != "\x01s\x01e\x00" || top != "\x01w\x01e\x00" || !slices.Equal(z.Records(), want) || !z.Same(z)
			}
		})
	}
	wait.Wait()
	if slices.Contains(wrong, true) {
		t.Error("several that ask at one time are told different things")
	}
}
