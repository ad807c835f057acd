package lookup

import (
	"slices"
	"strings"
	"sync"
	"testing"

	"hearsay/api"
	"hearsay/master"
	"hearsay/name"
	"hearsay/zone"
)

// noNames are bytes that are no names.
var noNames = []api.Name{
	"", "e", "e.", "\x01", "\x01e", "\x02e\x00", "\x00\x00", "\x01e\x00\x00", "\x01a\x00\x01e\x00", "\xc0\x00",
	api.Name("\x40" + strings.Repeat("a", 64) + "\x00"), "\x01a" + longest, api.Name(strings.Repeat("\x3f", 70000)),
}

// longest is a name of 255 bytes in 127 labels.
var longest = api.Name(strings.Repeat("\x01a", 127) + "\x00")

// apex is what a zone of e. has at its origin.
const apex = "@ 60 SOA ns m 7 1 2 3 9\n@ 50 NS ns\n"

// sample is the chapter's zone e., but for its addresses' TTLs.
const sample = apex + "ns 1 A 1.1.1.1\n* 2 A 2.2.2.2\nx.y 3 TXT x\nw 4 CNAME F.\ns 5 NS a.s\na.s 6 A 1.1.1.2\nb.s 7 A 1.1.1.3\n"

// named is a name by its text, whole.
func named(t testing.TB, text string) api.Name {
	t.Helper()
	n, e := name.Parse(text, api.Root)
	if e != api.OK {
		t.Fatalf("Parse(%q): %v", text, e)
	}
	return n
}

// records are those of a text, under an origin.
func records(t testing.TB, origin, text string) []api.Record {
	t.Helper()
	l, at, e := master.Parse(text, named(t, origin), 8)
	if e != api.OK {
		t.Fatalf("Parse(%q): %v at %v", text, e, at)
	}
	return l
}

// zoned is the zone of a text.
func zoned(t testing.TB, origin, text string) *zone.Zone {
	t.Helper()
	z, at, e := zone.New(named(t, origin), records(t, origin, text))
	if e != api.OK {
		t.Fatalf("New(%q): %v at %d", text, e, at)
	}
	return z
}

// want is what should be told, each part as a text of records.
type want struct {
	rcode                    uint16
	aa                       bool
	answer, authority, extra string
	alias                    string
}

// The last SOA of e., and two answers that have nothing else.
const lastText = "@ 9 SOA ns m 7 1 2 3 9"

var (
	nothing = want{aa: true, authority: lastText}
	noName  = want{aa: true, rcode: api.NXDomain, authority: lastText}
	refused = want{rcode: api.Refused}
)

// asks holds what a zone tells against what it should tell.
func asks(t *testing.T, z *zone.Zone, q api.Question, w want) {
	t.Helper()
	a, alias, is := Find(z, q)
	if a.Rcode != w.rcode || a.AA != w.aa {
		t.Errorf("Find(%q, %d): Rcode %d, AA %v", string(q.Name), q.Type, a.Rcode, a.AA)
	}
	for _, x := range []struct {
		part string
		l    []api.Record
		text string
	}{{"Answer", a.Answer, w.answer}, {"Authority", a.Authority, w.authority}, {"Extra", a.Extra, w.extra}} {
		if l := records(t, "e.", x.text); !slices.Equal(x.l, l) {
			t.Errorf("Find(%q, %d): %s = %v, not %v", string(q.Name), q.Type, x.part, x.l, l)
		}
	}
	to := api.Name("")
	if w.alias != "" {
		to = named(t, w.alias)
	}
	if alias != to || is != (w.alias != "") {
		t.Errorf("Find(%q, %d): the alias %q, %v", string(q.Name), q.Type, string(alias), is)
	}
}

// ask asks for a name by its text, in the class that is served.
func ask(t *testing.T, z *zone.Zone, n string, kind uint16, w want) {
	t.Helper()
	asks(t, z, api.Question{Name: named(t, n), Type: kind, Class: api.ClassIN}, w)
}

func TestExamples(t *testing.T) { // P12.1
	z := zoned(t, "e.", sample)
	ask(t, z, "e.", api.TypeNS, want{aa: true, answer: "@ 50 NS ns", extra: "ns 1 A 1.1.1.1"})
	ask(t, z, "Q.e.", api.TypeA, want{aa: true, answer: "q 2 A 2.2.2.2"})
	ask(t, z, "q.e.", api.TypeMX, nothing)
	ask(t, z, "q.y.e.", api.TypeA, noName)
	ask(t, z, "y.e.", api.TypeA, nothing)
	ask(t, z, "x.y.e.", api.TypeANY, want{aa: true, answer: "x.y 3 TXT x"})
	ask(t, z, "W.e.", api.TypeMX, want{aa: true, answer: "w 4 CNAME f.", alias: "f."})
	ask(t, z, "w.e.", api.TypeCNAME, want{aa: true, answer: "w 4 CNAME f."})
	ask(t, z, "b.s.e.", api.TypeA, want{authority: "s 5 NS a.s", extra: "a.s 6 A 1.1.1.2"})
	ask(t, z, "s.e.", api.TypeNS, want{authority: "s 5 NS a.s", extra: "a.s 6 A 1.1.1.2"})
	ask(t, z, "f.", api.TypeA, refused)
	asks(t, z, api.Question{Name: named(t, "e."), Type: api.TypeNS, Class: 3}, refused)
}

func TestRefused(t *testing.T) { // P12.1, case 1
	z := zoned(t, "e.", sample)
	for _, kind := range []uint16{0, api.TypeA, api.TypeNS, api.TypeANY, 65535} {
		ask(t, nil, "e.", kind, refused)
		ask(t, new(zone.Zone), "e.", kind, refused)
		ask(t, new(zone.Zone), ".", kind, refused)
		for _, n := range []string{".", "f.", "ee.", "e.f.", "s.f.", "w.f."} {
			ask(t, z, n, kind, refused)
		}
		for _, n := range noNames {
			asks(t, z, api.Question{Name: n, Type: kind, Class: api.ClassIN}, refused)
			asks(t, new(zone.Zone), api.Question{Name: n, Type: kind, Class: api.ClassIN}, refused)
		}
		for _, class := range []uint16{0, 2, 3, 255, 257, 65535} {
			for _, n := range []string{"e.", "q.e.", "q.y.e.", "w.e.", "b.s.e."} { // ahead of all other cases
				asks(t, z, api.Question{Name: named(t, n), Type: kind, Class: class}, refused)
			}
		}
	}
}

func TestReferral(t *testing.T) { // P12.1, case 2
	z := zoned(t, "e.", apex+`* 1 A 1.1.1.1
ns 2 AAAA 0:0:0:0:0:0:0:1
ns 2 A 1.1.1.4
s 3 NS b.S
s 3 NS a.s
s 3 NS NS
s 3 NS other.f.
s 3 NS q
s 3 A 1.1.1.2
a.s 4 AAAA 0:0:0:0:0:0:0:2
a.s 5 A 1.1.1.9
a.s 5 A 1.1.1.3
b.s 6 A 1.1.1.5
c.s 6 A 1.1.1.6
`)
	extra := "ns 2 A 1.1.1.4\nns 2 AAAA 0:0:0:0:0:0:0:1\na.s 5 A 1.1.1.3\na.s 5 A 1.1.1.9\na.s 4 AAAA 0:0:0:0:0:0:0:2\nb.s 6 A 1.1.1.5"
	w := want{authority: "s 3 NS ns\ns 3 NS q\ns 3 NS a.s\ns 3 NS b.s\ns 3 NS other.f.", extra: extra}
	for _, n := range []string{"s.e.", "S.E.", "a.s.e.", "c.S.e.", "q.s.e.", "q.q.a.s.e.", "*.s.e."} {
		for _, kind := range []uint16{0, api.TypeA, api.TypeNS, api.TypeCNAME, api.TypeTXT, api.TypeAXFR, api.TypeANY} {
			ask(t, z, n, kind, w)
		}
	}
	ask(t, z, "as.e.", api.TypeA, want{aa: true, answer: "as 1 A 1.1.1.1"}) // not at or under the cut
}

func TestReferralWithoutAddresses(t *testing.T) { // P12.1, case 2
	z := zoned(t, "e.", apex+"s 3 NS a.t\nt 3 NS a.f.\n* 1 A 1.1.1.1\n")
	ask(t, z, "x.s.e.", api.TypeA, want{authority: "s 3 NS a.t"}) // a wildcard's records are no host's
	ask(t, z, "t.e.", api.TypeA, want{authority: "t 3 NS a.f."})
	z = zoned(t, "e.", apex+"s 3 NS a.t\nt 3 NS s\na.t 2 A 1.1.1.1\ns 4 A 1.1.1.2\n")
	ask(t, z, "s.e.", api.TypeA, want{authority: "s 3 NS a.t", extra: "a.t 2 A 1.1.1.1"}) // one below another cut
	ask(t, z, "t.e.", api.TypeA, want{authority: "t 3 NS s", extra: "s 4 A 1.1.1.2"})
}

func TestNoSource(t *testing.T) { // P12.1, case 3
	z := zoned(t, "e.", sample)
	for _, kind := range []uint16{0, api.TypeA, api.TypeTXT, api.TypeCNAME, api.TypeSOA, api.TypeOPT, api.TypeAXFR, api.TypeANY} {
		for _, n := range []string{"q.y.e.", "Q.X.Y.E.", "*.y.e.", "q.ns.e.", "q.w.e.", "q.q.q.w.e.", "q.*.e.", "*.*.e."} {
			ask(t, z, n, kind, noName)
		}
		ask(t, zoned(t, "e.", apex), "q.e.", kind, noName) // no wildcard at all
		ask(t, zoned(t, "e.", apex), "*.e.", kind, noName)
		ask(t, zoned(t, "e.", apex+"*.a A 1.1.1.1\n"), "q.e.", kind, noName) // one further down
	}
}

func TestWildcard(t *testing.T) { // P12.1: its source
	z := zoned(t, "e.", apex+"* 1 A 1.1.1.1\n* 1 MX 5 W\n*.a 2 TXT x\nb.a 3 A 1.1.1.2\n*.c 4 CNAME D.*.\nx.*.d 5 A 1.1.1.3\nw 6 A 1.1.1.4\n")
	ask(t, z, "q.e.", api.TypeA, want{aa: true, answer: "q 1 A 1.1.1.1"})
	ask(t, z, "P.Q.e.", api.TypeA, want{aa: true, answer: "p.q 1 A 1.1.1.1"})
	ask(t, z, "*.q.e.", api.TypeA, want{aa: true, answer: "*.q 1 A 1.1.1.1"})
	ask(t, z, "*.e.", api.TypeA, want{aa: true, answer: "* 1 A 1.1.1.1"})
	ask(t, z, "q.e.", api.TypeMX, want{aa: true, answer: "q 1 MX 5 w", extra: "w 6 A 1.1.1.4"})
	ask(t, z, "q.e.", api.TypeANY, want{aa: true, answer: "q 1 A 1.1.1.1\nq 1 MX 5 w"})
	ask(t, z, "q.e.", api.TypeTXT, nothing)
	ask(t, z, "q.*.e.", api.TypeA, noName) // the encloser is the wildcard
	ask(t, z, "q.a.e.", api.TypeTXT, want{aa: true, answer: "q.a 2 TXT x"})
	ask(t, z, "q.a.e.", api.TypeA, nothing) // the next wildcard alone
	ask(t, z, "a.e.", api.TypeA, nothing)   // an empty name is there
	ask(t, z, "b.a.e.", api.TypeTXT, nothing)
	ask(t, z, "q.b.a.e.", api.TypeA, noName)
	ask(t, z, "Q.C.e.", api.TypeA, want{aa: true, answer: "q.c 4 CNAME d.*.", alias: "d.*."})
	ask(t, z, "q.c.e.", api.TypeCNAME, want{aa: true, answer: "q.c 4 CNAME d.*."})
	ask(t, z, "q.d.e.", api.TypeA, nothing) // an empty wildcard
	ask(t, z, "q.d.e.", api.TypeANY, nothing)
	ask(t, z, "x.*.d.e.", api.TypeA, want{aa: true, answer: "x.*.d 5 A 1.1.1.3"})
	ask(t, z, "q.w.e.", api.TypeA, noName)
}

func TestWildcardCut(t *testing.T) { // P12.1: a cut that is a wildcard is at or above no other name
	z := zoned(t, "e.", apex+"* 5 NS a.*\na.* 6 A 1.1.1.1\n* 7 A 1.1.1.2\n")
	ask(t, z, "*.e.", api.TypeA, want{authority: "* 5 NS a.*", extra: "a.* 6 A 1.1.1.1"})
	ask(t, z, "q.*.e.", api.TypeA, want{authority: "* 5 NS a.*", extra: "a.* 6 A 1.1.1.1"})
	ask(t, z, "q.e.", api.TypeNS, want{aa: true, answer: "q 5 NS a.*", extra: "a.* 6 A 1.1.1.1"})
	ask(t, z, "q.e.", api.TypeA, want{aa: true, answer: "q 7 A 1.1.1.2"})
	ask(t, z, "q.e.", api.TypeTXT, nothing)
}

func TestLongNames(t *testing.T) { // P12.1: names with no room left
	z, at, e := zone.New("\x01a\x00", []api.Record{
		{Name: "\x01a\x00", Type: api.TypeSOA, Class: 1, TTL: 9, Data: api.Data{Host: api.Root, Mail: api.Root}},
		{Name: "\x01a\x00", Type: api.TypeNS, Class: 1, TTL: 9, Data: api.Data{Host: api.Root}},
		{Name: longest, Type: api.TypeA, Class: 1, TTL: 9, Data: api.Data{Raw: "abcd"}},
		{Name: "\x01*" + longest[2:], Type: api.TypeTXT, Class: 1, TTL: 9, Data: api.Data{Raw: "\x00"}},
	})
	if e != api.OK {
		t.Fatalf("%v at %d", e, at)
	}
	if a, _, _ := Find(z, api.Question{Name: longest, Type: api.TypeA, Class: 1}); len(a.Answer) != 1 || a.Answer[0].Name != longest {
		t.Errorf("the longest name's address: %v", a)
	}
	if a, _, _ := Find(z, api.Question{Name: "\x01B" + longest[2:], Type: api.TypeTXT, Class: 1}); len(a.Answer) != 1 || a.Answer[0].Name != "\x01b"+longest[2:] {
		t.Errorf("the longest wildcard's text: %v", a)
	}
}

func TestAlias(t *testing.T) { // P12.1, case 4
	z := zoned(t, "e.", apex+"* 1 A 1.1.1.1\na 3 CNAME B.E.\nb 4 CNAME a\nl 5 CNAME L\n")
	for _, kind := range []uint16{0, api.TypeA, api.TypeNS, api.TypeSOA, api.TypeMX, api.TypeTXT, api.TypeOPT, 254, api.TypeAXFR, 65535} {
		ask(t, z, "A.e.", kind, want{aa: true, answer: "a 3 CNAME b", alias: "b.e."}) // one step, whatever stands there
		ask(t, z, "b.e.", kind, want{aa: true, answer: "b 4 CNAME a", alias: "a.e."})
		ask(t, z, "l.e.", kind, want{aa: true, answer: "l 5 CNAME l", alias: "l.e."})
	}
	ask(t, z, "a.e.", api.TypeCNAME, want{aa: true, answer: "a 3 CNAME b"})
	ask(t, z, "a.e.", api.TypeANY, want{aa: true, answer: "a 3 CNAME b"})
	ask(t, z, "q.e.", api.TypeCNAME, nothing)
}

func TestAny(t *testing.T) { // P12.1, case 5
	z := zoned(t, "e.", apex+`ns 1 A 1.1.1.1
m 9 TYPE99 \# 1 02
m 8 AAAA 0:0:0:0:0:0:0:1
m 7 MX 5 NS
m 6 TXT b
m 6 TXT a
m 5 A 1.1.1.3
m 5 A 1.1.1.2
m.o 4 TXT c
`)
	ask(t, z, "M.e.", api.TypeANY, want{aa: true, answer: "m 5 A 1.1.1.2\nm 5 A 1.1.1.3\nm 7 MX 5 ns\nm 6 TXT a\nm 6 TXT b\nm 8 AAAA 0:0:0:0:0:0:0:1\nm 9 TYPE99 \\# 1 02"})
	ask(t, z, "e.", api.TypeANY, want{aa: true, answer: "@ 50 NS ns\n@ 60 SOA ns m 7 1 2 3 9"}) // by types, no addresses
	ask(t, z, "o.e.", api.TypeANY, nothing)
	ask(t, z, "p.e.", api.TypeANY, noName)
	z = zoned(t, "e.", strings.Replace(apex, "@ 50 NS ns\n", "@ 50 NS ns\n@ 8 A 1.1.1.2\n@ 8 A 1.1.1.1\n@ 7 MX 1 ns\n@ 6 TYPE99 \\# 0\n@ 5 TXT b a\nns 1 A 1.1.1.1\n", 1))
	ask(t, z, "E.", api.TypeANY, want{aa: true, answer: "@ 8 A 1.1.1.1\n@ 8 A 1.1.1.2\n@ 50 NS ns\n@ 60 SOA ns m 7 1 2 3 9\n@ 7 MX 1 ns\n@ 5 TXT b a\n@ 6 TYPE99 \\# 0"})
}

func TestRecordsOfTheType(t *testing.T) { // P12.1, case 6
	z := zoned(t, "e.", apex+`ns 1 A 1.1.1.9
ns 1 A 1.1.1.1
m 2 AAAA 0:0:0:0:0:0:0:1
b 3 AAAA 0:0:0:0:0:0:0:2
b 3 A 1.1.1.2
c 4 CNAME b
* 5 A 1.1.1.5
mx 6 MX 7 b
mx 6 MX 5 m
mx 6 MX 6 B
mx 6 MX 6 ns
mx 6 MX 6 c
mx 6 MX 9 q
mx 6 MX 9 b.f.
mx 6 MX 9 .
srv 7 SRV 1 1 1 b
srv 7 SRV 1 1 2 ns
srv 7 SRV 2 1 1 b
p 8 PTR b
p 8 TXT b
p 8 TYPE99 \# 3 016200
s 9 NS a.s
a.s 9 A 1.1.1.7
mx2 9 MX 1 a.s
`)
	ask(t, z, "mx.e.", api.TypeMX, want{aa: true, // in the zone's order: by hosts, and then by numbers
		answer: "mx 6 MX 9 .\nmx 6 MX 6 b\nmx 6 MX 7 b\nmx 6 MX 6 c\nmx 6 MX 5 m\nmx 6 MX 6 ns\nmx 6 MX 9 q\nmx 6 MX 9 b.f.",
		extra:  "b 3 A 1.1.1.2\nb 3 AAAA 0:0:0:0:0:0:0:2\nm 2 AAAA 0:0:0:0:0:0:0:1\nns 1 A 1.1.1.1\nns 1 A 1.1.1.9"})
	ask(t, z, "srv.e.", api.TypeSRV, want{aa: true, answer: "srv 7 SRV 1 1 1 b\nsrv 7 SRV 2 1 1 b\nsrv 7 SRV 1 1 2 ns",
		extra: "b 3 A 1.1.1.2\nb 3 AAAA 0:0:0:0:0:0:0:2\nns 1 A 1.1.1.1\nns 1 A 1.1.1.9"})
	ask(t, z, "mx2.e.", api.TypeMX, want{aa: true, answer: "mx2 9 MX 1 a.s", extra: "a.s 9 A 1.1.1.7"}) // one below a cut
	ask(t, z, "p.e.", api.TypePTR, want{aa: true, answer: "p 8 PTR b"})
	ask(t, z, "p.e.", api.TypeTXT, want{aa: true, answer: "p 8 TXT b"})
	ask(t, z, "p.e.", 99, want{aa: true, answer: "p 8 TYPE99 \\# 3 016200"})
	ask(t, z, "c.e.", api.TypeCNAME, want{aa: true, answer: "c 4 CNAME b"})
	ask(t, z, "E.", api.TypeSOA, want{aa: true, answer: "@ 60 SOA ns m 7 1 2 3 9"}) // with its own TTL, and no addresses
	ask(t, z, "NS.e.", api.TypeA, want{aa: true, answer: "ns 1 A 1.1.1.1\nns 1 A 1.1.1.9"})
}

func TestNothing(t *testing.T) { // P12.1, case 7
	z := zoned(t, "e.", sample)
	for _, kind := range []uint16{0, api.TypeCNAME, api.TypeSRV, api.TypeOPT, 249, 250, 251, api.TypeAXFR, 253, 254, 65535} {
		for _, n := range []string{"e.", "ns.e.", "y.e.", "x.y.e.", "q.e.", "*.e."} {
			ask(t, z, n, kind, nothing)
		}
	}
	ask(t, zoned(t, "e.", apex+"a.b NS ns\n"), "b.e.", api.TypeNS, nothing) // empty but for a cut
}

func TestLastSOA(t *testing.T) { // P12.1: its TTL
	for _, x := range []struct{ own, minimum, last string }{
		{"60", "9", "9"}, {"9", "60", "9"}, {"9", "9", "9"}, {"0", "9", "0"}, {"9", "0", "0"}, {"2147483647", "4294967295", "2147483647"}, {"2147483647", "2147483648", "2147483647"}, {"10", "9", "9"}, {"9", "10", "9"},
	} {
		z := zoned(t, "e.", "@ "+x.own+" SOA ns m 4294967295 1 2 3 "+x.minimum+"\n@ NS ns\n")
		w := want{aa: true, authority: "@ " + x.last + " SOA ns m 4294967295 1 2 3 " + x.minimum}
		ask(t, z, "e.", api.TypeA, w)
		w.rcode = api.NXDomain
		ask(t, z, "q.e.", api.TypeA, w)
		ask(t, z, "e.", api.TypeSOA, want{aa: true, answer: "@ " + x.own + " SOA ns m 4294967295 1 2 3 " + x.minimum})
	}
}

func TestRootZone(t *testing.T) { // P12.1: an origin that all names are under
	z := zoned(t, ".", "@ 9 SOA . . 7 1 2 3 8\n@ 7 NS .\n@ 6 A 1.1.1.1\nmx 5 MX 0 .\n* 4 A 1.1.1.2\ne 3 NS a.e\n")
	ask(t, z, ".", api.TypeNS, want{aa: true, answer: ". 7 NS .", extra: ". 6 A 1.1.1.1"})
	ask(t, z, "mx.", api.TypeMX, want{aa: true, answer: "mx. 5 MX 0 .", extra: ". 6 A 1.1.1.1"})
	ask(t, z, "a.b.", api.TypeA, want{aa: true, answer: "a.b. 4 A 1.1.1.2"})
	ask(t, z, "q.mx.", api.TypeA, want{aa: true, rcode: api.NXDomain, authority: ". 8 SOA . . 7 1 2 3 8"})
	ask(t, z, "a.E.", api.TypeA, want{authority: "e. 3 NS a.e."})
	for _, n := range noNames {
		asks(t, z, api.Question{Name: n, Type: api.TypeA, Class: 1}, refused)
	}
}

func TestNewMemory(t *testing.T) { // R3, R2
	z := zoned(t, "e.", sample+"@ MX 5 ns\n")
	for _, q := range []api.Question{{Name: "\x01e\x00", Type: api.TypeNS, Class: 1}, {Name: "\x01e\x00", Type: api.TypeANY, Class: 1}, {Name: "\x01q\x01e\x00", Type: api.TypeA, Class: 1}, {Name: "\x01w\x01e\x00", Type: api.TypeA, Class: 1}, {Name: "\x01s\x01e\x00", Type: api.TypeA, Class: 1}, {Name: "\x01y\x01e\x00", Type: api.TypeA, Class: 1}} {
		first, _, _ := Find(z, q)
		kept := [][]api.Record{slices.Clone(first.Answer), slices.Clone(first.Authority), slices.Clone(first.Extra)}
		for _, l := range [][]api.Record{first.Answer, first.Authority, first.Extra} {
			l = l[:cap(l)]
			for i := range l {
				l[i] = api.Record{Name: "x"}
			}
		}
		again, _, _ := Find(z, q)
		if !slices.Equal(again.Answer, kept[0]) || !slices.Equal(again.Authority, kept[1]) || !slices.Equal(again.Extra, kept[2]) {
			t.Errorf("Find(%v) shows what was written into its answer: %v", q, again)
		}
		for _, l := range [][]api.Record{again.Answer, again.Authority, again.Extra} {
			for i := range l[:cap(l)] {
				l[:cap(l)][i] = api.Record{}
			}
		}
	}
}

func TestListsApart(t *testing.T) { // R3: no two lists of one answer share any
	z := zoned(t, "e.", sample)
	a, _, _ := Find(z, api.Question{Name: "\x01e\x00", Type: api.TypeNS, Class: 1})
	extra := slices.Clone(a.Extra)
	for i := range a.Answer[:cap(a.Answer)] {
		a.Answer[:cap(a.Answer)][i] = api.Record{}
	}
	if !slices.Equal(a.Extra, extra) {
		t.Error("Answer and Extra share memory")
	}
}

func TestSeveralAtOneTime(t *testing.T) { // P12.1: a zone doesn't change
	z := zoned(t, "e.", sample)
	var all sync.WaitGroup
	for range 8 {
		all.Add(1)
		go func() {
			defer all.Done()
			for range 200 {
				if a, _, _ := Find(z, api.Question{Name: "\x01Q\x01e\x00", Type: api.TypeA, Class: 1}); len(a.Answer) != 1 || a.Answer[0].Name != "\x01q\x01e\x00" {
					t.Errorf("Find = %v", a)
				}
			}
		}()
	}
	all.Wait()
}
