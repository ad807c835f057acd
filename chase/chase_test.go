package chase

import (
	"slices"
	"strconv"
	"strings"
	"sync"
	"testing"

	"hearsay/api"
	"hearsay/lookup"
	"hearsay/master"
	"hearsay/name"
	"hearsay/zone"
)

// noNames are bytes that are no names.
var noNames = []api.Name{
	"", "e", "e.", "\x01", "\x01e", "\x02e\x00", "\x00\x00", "\x01e\x00\x00", "\x01a\x00\x01e\x00", "\xc0\x00",
	api.Name("\x40" + strings.Repeat("a", 64) + "\x00"), "\x01a" + longest, api.Name(strings.Repeat("\x3f", 70000)),
}

// longest is a name of 255 bytes in 127 labels.
var longest = api.Name(strings.Repeat("\x01a", 127) + "\x00")

// apex is what each zone has at its origin.
const apex = "@ 60 SOA ns m 7 1 2 3 9\n@ 50 NS ns\n"

// named is a name by its text, whole.
func named(t testing.TB, text string) api.Name {
	t.Helper()
	n, e := name.Parse(text, api.Root)
	if e != api.OK {
		t.Fatalf("Parse(%q): %v", text, e)
	}
	return n
}

// records are those of a text, under an origin.
func records(t testing.TB, origin, text string) []api.Record {
	t.Helper()
	l, at, e := master.Parse(text, named(t, origin), 8)
	if e != api.OK {
		t.Fatalf("Parse(%q): %v at %v", text, e, at)
	}
	return l
}

// zoned is the zone of a text, behind its apex.
func zoned(t testing.TB, origin, text string) *zone.Zone {
	t.Helper()
	z, at, e := zone.New(named(t, origin), records(t, origin, apex+text))
	if e != api.OK {
		t.Fatalf("New(%q): %v at %d", text, e, at)
	}
	return z
}

// together are zones as one.
func together(t testing.TB, zones ...*zone.Zone) *Zones {
	t.Helper()
	s, e := New(zones...)
	if e != api.OK || s == nil {
		t.Fatalf("New = %v, %v", s, e)
	}
	return s
}

// want is what should be told, each part as a text of records.
type want struct {
	rcode                    uint16
	aa                       bool
	answer, authority, extra string
}

// The last SOA of e., and the answer that comes of too many aliases.
const lastText = "e. 9 SOA ns.e. m.e. 7 1 2 3 9"

var failed = want{rcode: api.ServFail}

// asks holds what zones tell against what they should tell.
func asks(t *testing.T, s *Zones, q api.Question, w want) {
	t.Helper()
	a, ok := s.Resolve(q)
	if a.Rcode != w.rcode || a.AA != w.aa || !ok {
		t.Errorf("Resolve(%q, %d): Rcode %d, AA %v; %v", string(q.Name), q.Type, a.Rcode, a.AA, ok)
	}
	for _, x := range []struct {
		part string
		l    []api.Record
		text string
	}{{"Answer", a.Answer, w.answer}, {"Authority", a.Authority, w.authority}, {"Extra", a.Extra, w.extra}} {
		if l := records(t, ".", x.text); !slices.Equal(x.l, l) {
			t.Errorf("Resolve(%q, %d): %s = %v, not %v", string(q.Name), q.Type, x.part, x.l, l)
		}
	}
}

// ask asks for a name by its text, in the class that is served.
func ask(t *testing.T, s *Zones, n string, kind uint16, w want) {
	t.Helper()
	asks(t, s, api.Question{Name: named(t, n), Type: kind, Class: api.ClassIN}, w)
}

// silent asks for what has no zone.
func silent(t *testing.T, s *Zones, n api.Name) {
	t.Helper()
	for _, kind := range []uint16{0, api.TypeA, api.TypeCNAME, api.TypeANY, 65535} {
		for _, class := range []uint16{0, api.ClassIN, 3} {
			a, ok := s.Resolve(api.Question{Name: n, Type: kind, Class: class})
			if ok || a.Rcode != 0 || a.AA || len(a.Answer)+len(a.Authority)+len(a.Extra) > 0 {
				t.Errorf("Resolve(%q, %d, %d) = %v, %v", string(n), kind, class, a, ok)
			}
		}
	}
	if z, ok := s.Of(n); z != nil || ok {
		t.Errorf("Of(%q) = %q, %v", string(n), string(z.Origin()), ok)
	}
}

// of holds the zone of a name against the one that it should be.
func of(t *testing.T, s *Zones, n string, z *zone.Zone) {
	t.Helper()
	if found, ok := s.Of(named(t, n)); found != z || !ok {
		t.Errorf("Of(%s) = %q, %v, not %q", n, string(found.Origin()), ok, string(z.Origin()))
	}
}

func TestExamples(t *testing.T) { // P13.1, P13.2, P13.3
	e := zoned(t, "e.", "a 1 CNAME b.x\nl 2 CNAME l\no 3 CNAME o.f.\nc 4 A 1.1.1.1\n")
	x := zoned(t, "x.e.", "b 5 CNAME c.e.\n")
	for _, s := range []*Zones{together(t, e, x), together(t, x, e)} {
		of(t, s, "q.X.e.", x)
		of(t, s, "y.e.", e)
		silent(t, s, named(t, "f."))
		both := "a.e. 1 CNAME b.x.e.\nb.x.e. 5 CNAME c.e.\n"
		ask(t, s, "A.e.", api.TypeA, want{aa: true, answer: both + "c.e. 4 A 1.1.1.1"})
		ask(t, s, "a.e.", api.TypeCNAME, want{aa: true, answer: "a.e. 1 CNAME b.x.e."})
		ask(t, s, "a.e.", api.TypeMX, want{aa: true, answer: both, authority: lastText})
		ask(t, s, "l.e.", api.TypeA, failed)
		ask(t, s, "o.e.", api.TypeA, want{aa: true, answer: "o.e. 3 CNAME o.f."})
	}
	var many []*zone.Zone
	for i := range api.MaxZones + 1 {
		many = append(many, zoned(t, "e"+strconv.Itoa(i)+".", ""))
	}
	refused(t, api.ErrLong, many...)
	refused(t, api.ErrNil, nil)
	refused(t, api.ErrThere, e, zoned(t, "e.", ""))
}

// refused asks for zones together that can't be.
func refused(t *testing.T, e api.Errno, zones ...*zone.Zone) {
	t.Helper()
	if s, err := New(zones...); s != nil || err != e {
		t.Errorf("New of %d = %v, %v, not %v", len(zones), s, err, e)
	}
}

func TestNew(t *testing.T) { // P13.1
	var many []*zone.Zone
	for i := range api.MaxZones {
		many = append(many, zoned(t, strconv.Itoa(i)+".", ""))
	}
	s := together(t, many...)
	for i, z := range many {
		of(t, s, "a."+strconv.Itoa(i)+".", z)
	}
	again := zoned(t, "63.", "")
	refused(t, api.ErrThere, append(slices.Clone(many[1:]), again)...)
	refused(t, api.ErrThere, append([]*zone.Zone{again}, many[1:]...)...)
	refused(t, api.ErrThere, many[3], many[3])
	refused(t, api.ErrThere, zoned(t, "A.", ""), many[0], zoned(t, "a.", ""))
	refused(t, api.ErrThere, zoned(t, ".", ""), many[0], zoned(t, ".", ""))

	// Of several errors the first one.
	refused(t, api.ErrLong, make([]*zone.Zone, api.MaxZones+1)...)
	refused(t, api.ErrLong, append(slices.Clone(many), nil)...)
	refused(t, api.ErrLong, append(slices.Clone(many), many[0])...)
	refused(t, api.ErrLong, make([]*zone.Zone, 100000)...)
	refused(t, api.ErrNil, make([]*zone.Zone, api.MaxZones)...)
	refused(t, api.ErrNil, many[0], many[0], nil)
	refused(t, api.ErrNil, nil, many[0], many[0])
	refused(t, api.ErrNil, many[0], nil, many[0])
	refused(t, api.ErrNil, new(zone.Zone), new(zone.Zone))
}

func TestNone(t *testing.T) { // P13.1, P13.2, P13.3, R1
	var no *Zones
	for _, s := range []*Zones{no, new(Zones), together(t), together(t, nil...), together(t, []*zone.Zone{}...)} {
		for _, n := range append([]api.Name{api.Root, "\x01e\x00", longest}, noNames...) {
			silent(t, s, n)
		}
	}
}

func TestListIsNotKept(t *testing.T) { // P13.1, R3
	e, f := zoned(t, "e.", ""), zoned(t, "f.", "")
	room := []*zone.Zone{e, f, f}
	s := together(t, room[:2]...)
	if !slices.Equal(room, []*zone.Zone{e, f, f}) {
		t.Errorf("New changed the list: %v", room)
	}
	room[0], room[1] = nil, e
	of(t, s, "e.", e)
	of(t, s, "f.", f)
}

func TestOf(t *testing.T) { // P13.2
	e, xe, zyxe, be := zoned(t, "E.", ""), zoned(t, "x.e.", ""), zoned(t, "z.y.x.e.", ""), zoned(t, "b.e.", "")
	for _, s := range []*Zones{together(t, e, xe, zyxe, be), together(t, zyxe, be, xe, e)} {
		for _, c := range []struct {
			n string
			z *zone.Zone
		}{
			{"e.", e}, {"E.", e}, {"a.e.", e}, {"xx.e.", e}, {"x\\.e.e.", e}, {"x.a.e.", e}, {"z.y.e.", e},
			{"x.e.", xe}, {"X.E.", xe}, {"y.x.e.", xe}, {"a.y.x.e.", xe}, {"zz.y.x.e.", xe}, {"b.x.e.", xe}, {"e.x.e.", xe},
			{"z.y.x.e.", zyxe}, {"a.b.Z.Y.x.e.", zyxe}, {"b.e.", be}, {"x.b.e.", be}, {"z.y.x.b.e.", be}, {"*.b.e.", be},
		} {
			of(t, s, c.n, c.z)
		}
		for _, n := range []string{".", "f.", "ee.", "e.f.", "x.e.f.", "x\\.e."} {
			silent(t, s, named(t, n))
		}
		for _, n := range noNames {
			silent(t, s, n)
		}
	}
}

func TestOfRoot(t *testing.T) { // P13.2: an origin that all names are under
	root, e, deep := zoned(t, ".", ""), zoned(t, "e.", ""), zoned(t, "a.a.a.", "")
	s := together(t, e, root, deep)
	for _, n := range []string{".", "f.", "e.f.", "ee.", "a.", "a.a.", "b.a.a."} {
		of(t, s, n, root)
	}
	of(t, s, "e.", e)
	of(t, s, "f.e.", e)
	of(t, s, "a.a.A.", deep)
	if z, ok := s.Of(longest); z != deep || !ok {
		t.Error("Of the longest name")
	}
	for _, n := range noNames {
		silent(t, s, n)
	}
}

func TestOneZone(t *testing.T) { // P13.3: without an alias all is as the zone alone tells it
	z := zoned(t, "e.", "ns 1 A 1.1.1.1\n* 2 A 2.2.2.2\nx.y 3 TXT x\nw 4 MX 5 ns\ns 5 NS a.s\na.s 6 A 1.1.1.2\n")
	s := together(t, z)
	for _, n := range []string{"e.", "NS.e.", "q.e.", "y.e.", "X.y.e.", "q.y.e.", "w.e.", "s.e.", "b.s.E."} {
		for _, kind := range []uint16{0, 1, 2, 5, 6, 15, 16, 28, 252, 255} {
			for _, class := range []uint16{0, 1, 3, 255} {
				q := api.Question{Name: named(t, n), Type: kind, Class: class}
				a, ok := s.Resolve(q)
				w, _, _ := lookup.Find(z, q)
				if !ok || !same(a, w) {
					t.Errorf("Resolve(%s, %d, %d) = %v, %v, not %v", n, kind, class, a, ok, w)
				}
			}
		}
	}
}

// same tells whether two answers are one.
func same(a, b api.Answer) bool {
	return a.Rcode == b.Rcode && a.AA == b.AA && slices.Equal(a.Answer, b.Answer) && slices.Equal(a.Authority, b.Authority) && slices.Equal(a.Extra, b.Extra)
}

func TestOtherClass(t *testing.T) { // P13.3: an alias is led to in the class that is served alone
	s := together(t, zoned(t, "e.", "a CNAME b\nb A 1.1.1.1\n"))
	for _, class := range []uint16{0, 2, 3, 255, 65535} {
		for _, n := range []string{"a.e.", "b.e.", "e.", "q.e."} {
			asks(t, s, api.Question{Name: named(t, n), Type: api.TypeA, Class: class}, want{rcode: api.Refused})
		}
	}
}

func TestWhereTheRowEnds(t *testing.T) { // P13.3: Rcode, Authority and Extra are those of the last Find, AA that of the first
	e := zoned(t, "e.", `m 1 CNAME mx.F.
n 2 CNAME q.q.f.
t 3 CNAME b.s.f.
u 4 CNAME u.x
ns 5 A 1.1.1.1
v 6 CNAME e.
y 7 CNAME a.y.e.
a.y 8 TXT y
x 9 NS far.g.
`)
	f := zoned(t, "f.", "mx 1 MX 5 A.mx\nmx 1 MX 4 g.\na.mx 2 A 1.1.1.2\na.mx 3 AAAA 0:0:0:0:0:0:0:1\ns 4 NS a.s\na.s 5 A 1.1.1.3\n")
	s := together(t, e, f)
	lastF := "f. 9 SOA ns.f. m.f. 7 1 2 3 9"
	ask(t, s, "m.e.", api.TypeMX, want{aa: true, answer: "m.e. 1 CNAME mx.f.\nmx.f. 1 MX 5 a.mx.f.\nmx.f. 1 MX 4 g.", extra: "a.mx.f. 2 A 1.1.1.2\na.mx.f. 3 AAAA 0:0:0:0:0:0:0:1"})
	ask(t, s, "m.e.", api.TypeA, want{aa: true, answer: "m.e. 1 CNAME mx.f.", authority: lastF})
	ask(t, s, "M.e.", api.TypeANY, want{aa: true, answer: "m.e. 1 CNAME mx.f."})
	ask(t, s, "N.e.", api.TypeMX, want{aa: true, rcode: api.NXDomain, answer: "n.e. 2 CNAME q.q.f.", authority: lastF})
	ask(t, s, "t.e.", api.TypeA, want{aa: true, answer: "t.e. 3 CNAME b.s.f.", authority: "s.f. 4 NS a.s.f.", extra: "a.s.f. 5 A 1.1.1.3"})
	ask(t, s, "t.e.", api.TypeCNAME, want{aa: true, answer: "t.e. 3 CNAME b.s.f."})
	ask(t, s, "v.e.", api.TypeNS, want{aa: true, answer: "v.e. 6 CNAME e.\ne. 50 NS ns.e.", extra: "ns.e. 5 A 1.1.1.1"})
	ask(t, s, "v.e.", api.TypeSOA, want{aa: true, answer: "v.e. 6 CNAME e.\ne. 60 SOA ns.e. m.e. 7 1 2 3 9"})
	ask(t, s, "y.e.", api.TypeTXT, want{aa: true, answer: "y.e. 7 CNAME a.y.e.\na.y.e. 8 TXT y"})
	ask(t, s, "b.s.f.", api.TypeA, want{authority: "s.f. 4 NS a.s.f.", extra: "a.s.f. 5 A 1.1.1.3"})
	ask(t, s, "u.e.", api.TypeTXT, want{aa: true, answer: "u.e. 4 CNAME u.x.e.", authority: "x.e. 9 NS far.g."})

	// The zone below the cut, where there is one, is asked instead.
	s = together(t, e, f, zoned(t, "x.e.", "u 1 TXT u\n"))
	ask(t, s, "u.e.", api.TypeTXT, want{aa: true, answer: "u.e. 4 CNAME u.x.e.\nu.x.e. 1 TXT u"})
	ask(t, s, "x.e.", api.TypeNS, want{aa: true, answer: "x.e. 50 NS ns.x.e."})
}

func TestBehindTheLastZone(t *testing.T) { // P13.3: the name has no zone
	e := zoned(t, "e.", "a 1 CNAME b\nb 2 CNAME a.x\n")
	x := zoned(t, "x.e.", "a 3 CNAME d.F.\n* 4 CNAME .\n")
	s := together(t, x, e)
	row := "a.e. 1 CNAME b.e.\nb.e. 2 CNAME a.x.e.\na.x.e. 3 CNAME d.f."
	for _, kind := range []uint16{0, api.TypeA, api.TypeMX, 65535} {
		ask(t, s, "a.e.", kind, want{aa: true, answer: row})
		ask(t, s, "a.x.e.", kind, want{aa: true, answer: "a.x.e. 3 CNAME d.f."})
		ask(t, s, "Q.x.e.", kind, want{aa: true, answer: "q.x.e. 4 CNAME ."})
	}
	// Without the zone below, e. answers itself what it knows of there.
	ask(t, together(t, e), "a.e.", api.TypeA, want{rcode: api.NXDomain, aa: true, answer: "a.e. 1 CNAME b.e.\nb.e. 2 CNAME a.x.e.", authority: lastText})
	silent(t, together(t, x), named(t, "a.e."))
}

// row is a text of aliases, each of which leads to the next one, from r0 on, and its end.
func row(count int, end string) string {
	var b strings.Builder
	for i := range count {
		b.WriteString("r" + strconv.Itoa(i) + ".e. " + strconv.Itoa(i+1) + " CNAME r" + strconv.Itoa(i+1) + ".e.\n")
	}
	return b.String() + "r" + strconv.Itoa(count) + ".e. " + end + "\n"
}

func TestHops(t *testing.T) { // P13.3, P13.4
	for count := range 12 {
		text := row(count, "9 A 1.1.1.1")
		s := together(t, zoned(t, "e.", text))
		if count > api.MaxHops {
			ask(t, s, "r0.e.", api.TypeA, failed)
			ask(t, s, "r0.e.", api.TypeMX, failed)
			continue
		}
		ask(t, s, "r0.e.", api.TypeA, want{aa: true, answer: text})
		aliases := text[:strings.LastIndex(strings.TrimSpace(text), "\n")+1]
		ask(t, s, "R0.E.", api.TypeMX, want{aa: true, answer: aliases, authority: lastText})

		// To where there is no name, and to where there is no zone.
		text = row(count, "9 CNAME q.e.")
		s = together(t, zoned(t, "e.", text))
		if w := (want{aa: true, rcode: api.NXDomain, answer: text, authority: lastText}); count < api.MaxHops {
			ask(t, s, "r0.e.", api.TypeA, w)
		} else {
			ask(t, s, "r0.e.", api.TypeA, failed)
		}
		text = row(count, "9 CNAME q.f.")
		s = together(t, zoned(t, "e.", text))
		if w := (want{aa: true, answer: text}); count < api.MaxHops {
			ask(t, s, "r0.e.", api.TypeA, w)
		} else {
			ask(t, s, "r0.e.", api.TypeA, failed)
		}
	}
}

func TestCircles(t *testing.T) { // P13.4
	e := zoned(t, "e.", "l CNAME L\na CNAME b.f.\nc CNAME d.f.\n* CNAME w.E.\nk CNAME a.f.\n")
	f := zoned(t, "f.", "b CNAME A.e.\nd CNAME e.f.\ne CNAME c.e.\na CNAME l.e.\n")
	s := together(t, e, f)
	for _, n := range []string{"l.e.", "L.e.", "a.e.", "b.f.", "c.e.", "d.f.", "e.f.", "w.e.", "q.e.", "k.e.", "a.f."} {
		ask(t, s, n, api.TypeA, failed)
		ask(t, s, n, api.TypeSOA, failed)
		if a, ok := s.Resolve(api.Question{Name: named(t, n), Type: api.TypeCNAME, Class: 1}); !ok || !a.AA || len(a.Answer) != 1 {
			t.Errorf("Resolve(%s CNAME) = %v, %v", n, a, ok)
		}
	}
	// What wildcards tell leads in circles too.
	s = together(t, zoned(t, "e.", "*.a CNAME a.a.e.\n*.b CNAME x.b.f.\n"), zoned(t, "f.", "*.b CNAME y.b.e.\n"))
	ask(t, s, "q.a.e.", api.TypeA, failed)
	ask(t, s, "q.b.e.", api.TypeA, failed)
}

func TestNewMemory(t *testing.T) { // R2, R3
	s := together(t, zoned(t, "e.", "a 1 CNAME b\nb 2 CNAME c.f.\nd 3 CNAME s.f.\ng 4 CNAME f.\nq 5 CNAME q.f.\n"), zoned(t, "f.", "c 1 A 1.1.1.1\ns 2 NS a.s\na.s 3 A 1.1.1.2\n@ 4 MX 5 c\n"))
	for _, q := range []api.Question{
		{Name: "\x01a\x01e\x00", Type: 1, Class: 1}, {Name: "\x01d\x01e\x00", Type: 1, Class: 1}, {Name: "\x01g\x01e\x00", Type: 15, Class: 1},
		{Name: "\x01q\x01e\x00", Type: 15, Class: 1}, {Name: "\x01a\x01e\x00", Type: 5, Class: 1}, {Name: "\x01f\x00", Type: 255, Class: 1},
	} {
		first, _ := s.Resolve(q)
		kept := api.Answer{Rcode: first.Rcode, AA: first.AA, Answer: slices.Clone(first.Answer), Authority: slices.Clone(first.Authority), Extra: slices.Clone(first.Extra)}
		spoil(first.Answer)
		if !slices.Equal(first.Authority, kept.Authority) || !slices.Equal(first.Extra, kept.Extra) {
			t.Errorf("Resolve(%v): two lists share memory", q)
		}
		spoil(first.Authority)
		if !slices.Equal(first.Extra, kept.Extra) {
			t.Errorf("Resolve(%v): two lists share memory", q)
		}
		spoil(first.Extra)
		if again, _ := s.Resolve(q); !same(again, kept) {
			t.Errorf("Resolve(%v) shows what was written into its answer: %v", q, again)
		}
	}
}

// spoil writes all over a list, and the room behind its end.
func spoil(l []api.Record) {
	l = l[:cap(l)]
	for i := range l {
		l[i] = api.Record{Name: "x"}
	}
}

func TestSeveralAtOneTime(t *testing.T) { // P13.1: they do not change
	e := zoned(t, "e.", "a 1 CNAME b.f.\n")
	s := together(t, e, zoned(t, "f.", "b 2 A 1.1.1.1\n"))
	var all sync.WaitGroup
	for range 8 {
		all.Add(1)
		go func() {
			defer all.Done()
			for range 200 {
				if a, ok := s.Resolve(api.Question{Name: "\x01A\x01e\x00", Type: api.TypeA, Class: 1}); !ok || len(a.Answer) != 2 {
					t.Errorf("Resolve = %v, %v", a, ok)
				}
				if z, ok := s.Of("\x01x\x01E\x00"); z != e || !ok {
					t.Errorf("Of = %v, %v", z, ok)
				}
			}
		}()
	}
	all.Wait()
}
