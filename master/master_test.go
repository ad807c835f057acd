package master

import (
	"fmt"
	"slices"
	"strconv"
	"strings"
	"testing"

	"hearsay/api"
	"hearsay/name"
)

// origin and ttl are those that are handed in here, where nothing else is said.
const (
	origin api.Name = "\x01e\x00"
	ttl    uint32   = 9
)

// one is the data of the address 1.1.1.1.
var one = api.Data{Raw: "\x01\x01\x01\x01"}

// named is the name of a text that is whole.
func named(t *testing.T, text string) api.Name {
	t.Helper()
	n, e := name.Parse(text, api.Root)
	if e != api.OK || !strings.HasSuffix(text, ".") {
		t.Fatalf("%q tells no name", text)
	}
	return n
}

// rec is a record of the class that is served.
func rec(t *testing.T, owner string, ttl uint32, kind uint16, d api.Data) api.Record {
	t.Helper()
	return api.Record{Name: named(t, owner), Type: kind, Class: api.ClassIN, TTL: ttl, Data: d}
}

// addr is a record of the address 1.1.1.1.
func addr(t *testing.T, owner string, ttl uint32) api.Record {
	t.Helper()
	return rec(t, owner, ttl, api.TypeA, one)
}

// host is a record whose data are a name.
func host(t *testing.T, owner string, ttl uint32, kind uint16, to string) api.Record {
	t.Helper()
	return rec(t, owner, ttl, kind, api.Data{Host: named(t, to)})
}

// brief tells records, not all of them if they are many.
func brief(l []api.Record) string {
	s := fmt.Sprint(l)
	return s[:min(len(s), 400)]
}

// tells asks for the records of a text.
func tells(t *testing.T, text string, want ...api.Record) {
	t.Helper()
	if l, s, e := Parse(text, origin, ttl); !slices.Equal(l, want) || s != (api.Spot{}) || e != api.OK {
		t.Errorf("Parse(%.80q) = %s, %v, %v, not %s", text, brief(l), s, e, brief(want))
	}
}

// refuses asks for the error of a text.
func refuses(t *testing.T, text string, want api.Errno, line, col int) {
	t.Helper()
	if l, s, e := Parse(text, origin, ttl); e != want || s != (api.Spot{Line: line, Col: col}) || len(l) != 0 {
		t.Errorf("Parse(%.80q) = %s, %v, %v, not %v at %d, %d", text, brief(l), s, e, want, line, col)
	}
}

func TestExamples(t *testing.T) { // P9.1
	two := api.Data{Raw: "\x02\x02\x02\x02"}
	tells(t, "@ 60 IN A 1.1.1.1\n IN 5 A 2.2.2.2\n", addr(t, "e.", 60), rec(t, "e.", 5, api.TypeA, two))
	tells(t, "W A 1.1.1.1\n$TTL 7\nw.x. A 1.1.1.1\n$ORIGIN f\n@ NS a", addr(t, "w.e.", 9), addr(t, "w.x.", 7), host(t, "f.e.", 7, api.TypeNS, "a.f.e."))
	tells(t, "a 3 A 1.1.1.1\nb A 1.1.1.1", addr(t, "a.e.", 3), addr(t, "b.e.", 3))
	tells(t, "a MX ( 5\n @ ) ; x\n", rec(t, "a.e.", 9, api.TypeMX, api.Data{N: [5]uint32{5}, Host: origin}))
	refuses(t, " A 1.1.1.1", api.ErrOwner, 1, 2)
	refuses(t, "$INCLUDE f", api.ErrDirective, 1, 1)
	refuses(t, "$TTL 2147483648", api.ErrDirective, 1, 1)
	refuses(t, "$ORIGIN", api.ErrDirective, 1, 1)
	refuses(t, "a CH A 1.1.1.1", api.ErrClass, 1, 3)
	refuses(t, "a 1 IN 2 A 1.1.1.1", api.ErrType, 1, 8)
	refuses(t, "a IN", api.ErrType, 1, 1)
	refuses(t, "a A 1.1.1", api.ErrWords, 1, 3)
}

func TestNothing(t *testing.T) { // P9.1
	for _, text := range []string{"", "\n\n", " \t\r\n", "; x\n ; y", "(\n)", "$TTL 5", "$ORIGIN f\n$TTL 5\n$ORIGIN g"} {
		tells(t, text)
	}
}

func TestWhatIsHandedIn(t *testing.T) { // P9.1
	for _, no := range []api.Name{"", "e", "\x01e", "\x01e\x00\x00", "\x40", api.Name(strings.Repeat("\x01a", 127) + "\x01a\x00")} {
		for _, text := range []string{"", "a A 1.1.1.1", ")", strings.Repeat(" ", api.MaxText+1)} {
			for _, x := range []uint32{0, api.MaxTTL, 1 << 31, 1<<32 - 1} {
				if l, s, e := Parse(text, no, x); len(l) != 0 || s != (api.Spot{}) || e != api.ErrName {
					t.Errorf("Parse(%.10q) of the origin %.10q = %v, %v, %v", text, string(no), l, s, e)
				}
			}
		}
	}
	for _, text := range []string{"", "a 5 A 1.1.1.1", "$TTL 5\na A 1.1.1.1", ")", strings.Repeat(" ", api.MaxText+1)} {
		for _, x := range []uint32{1 << 31, 1<<32 - 1} {
			if l, s, e := Parse(text, origin, x); len(l) != 0 || s != (api.Spot{}) || e != api.ErrTTL {
				t.Errorf("Parse(%.10q) of the TTL %d = %v, %v, %v", text, x, l, s, e)
			}
		}
	}
	for _, x := range []uint32{0, 1, api.MaxTTL} {
		if l, s, e := Parse("W.x A 1.1.1.1", "\x01B\x01c\x00", x); !slices.Equal(l, []api.Record{addr(t, "w.x.b.c.", x)}) || s != (api.Spot{}) || e != api.OK {
			t.Errorf("with the TTL %d: %v, %v, %v", x, l, s, e)
		}
	}
	if l, _, e := Parse("a A 1.1.1.1\n@ NS @", api.Root, 0); !slices.Equal(l, []api.Record{addr(t, "a.", 0), host(t, ".", 0, api.TypeNS, ".")}) || e != api.OK {
		t.Errorf("with the root: %v, %v", l, e)
	}
}

func TestErrorsOfWords(t *testing.T) { // P9.1
	refuses(t, strings.Repeat(" ", api.MaxText+1), api.ErrLong, 0, 0)
	refuses(t, "a A 1.1.1.1"+strings.Repeat("\n", api.MaxText-10), api.ErrLong, 0, 0)
	tells(t, "a A 1.1.1.1"+strings.Repeat("\n", api.MaxText-11), addr(t, "a.e.", 9))
	refuses(t, `a A "`, api.ErrQuote, 1, 5)
	refuses(t, "a A 1.1.1.1\n)", api.ErrParen, 2, 1)
	refuses(t, "a A (\n1.1.1.1", api.ErrParen, 1, 5)
	for _, wrong := range []string{"$X", " A 1.1.1.1", "a CH A 1.1.1.1", "a 2147483648 A 1.1.1.1", "a X", "a A x"} {
		refuses(t, wrong+"\n )", api.ErrParen, 2, 2) // whatever stands ahead
		refuses(t, wrong+"\n\"", api.ErrQuote, 2, 1)
		refuses(t, wrong+"\n"+strings.Repeat(" ", api.MaxText), api.ErrLong, 0, 0)
	}
}

func TestDirectives(t *testing.T) { // P9.1
	for _, word := range []string{"$ORIGIN", "$origin", "$Origin", "$oRiGiN"} {
		tells(t, word+" f\na A 1.1.1.1", addr(t, "a.f.e.", 9))
		tells(t, word+" F.G.\na A 1.1.1.1\n@ NS @", addr(t, "a.f.g.", 9), host(t, "f.g.", 9, api.TypeNS, "f.g."))
		tells(t, word+" .\na A 1.1.1.1", addr(t, "a.", 9))
		tells(t, word+" @\na A 1.1.1.1", addr(t, "a.e.", 9))
		tells(t, word+" f\n"+word+" g\n"+word+" @\na A 1.1.1.1", addr(t, "a.g.f.e.", 9))
		tells(t, word+` \@.\065\..`+"\na A 1.1.1.1", addr(t, `a.\@.a\..`, 9))
		tells(t, word+" 5\na A 1.1.1.1", addr(t, "a.5.e.", 9))
		for _, rest := range []string{"", " f g", " f 5", ` "f"`, ` "@"`, ` ""`, " a..b", " ..", ` \256`, ` \`, " " + strings.Repeat("a", 64), " " + strings.Repeat("a.", 128), " " + strings.Repeat("a.", 126) + "a", " f f. ; x"} {
			refuses(t, word+rest, api.ErrDirective, 1, 1)
		}
	}
	tells(t, "$ORIGIN "+strings.Repeat("a.", 127)+"\n@ A 1.1.1.1", addr(t, strings.Repeat("a.", 127), 9))
	for _, word := range []string{"$TTL", "$ttl", "$Ttl"} {
		tells(t, word+" 7\na A 1.1.1.1", addr(t, "a.e.", 7))
		tells(t, word+" 0\na A 1.1.1.1", addr(t, "a.e.", 0))
		tells(t, word+" 2147483647\na A 1.1.1.1", addr(t, "a.e.", api.MaxTTL))
		for _, rest := range []string{"", " 1 2", " f", " @", ` "7"`, ` ""`, " 07", " 00", " -1", " +1", " 1_0", " 0x1", " 1h", " 1.0", ` \055`, " 2147483648", " 4294967295", " 4294967296", " 4294967303", " 99999999999999999999999", " 7 IN"} {
			refuses(t, word+rest, api.ErrDirective, 1, 1)
		}
	}
	for _, text := range []string{"$", "$X", "$INCLUDE f", "$ORIGINS f", "$ORIGI f", "$TT 5", "$TTLS 5", `$TT\L 5`, `$\084TL 5`, "$$TTL 5", "$ TTL 5", "$A A 1.1.1.1", "$a 5 IN A 1.1.1.1", "$OR\u0130GIN f", `$TTL" "5`, `$GENERATE "1-5" a`, "(\n$TTL) x"} {
		line, col := 1, 1
		if text[0] == '(' {
			line = 2
		}
		refuses(t, text, api.ErrDirective, line, col)
	}
	refuses(t, "a A 1.1.1.1\n\n (\n) ; x\n$TTL 5 ; y\n$TTL\n", api.ErrDirective, 6, 1)
}

func TestWhatIsNoDirective(t *testing.T) { // P9.1
	tells(t, `\$TTL A 1.1.1.1`, addr(t, `\$ttl.e.`, 9))
	tells(t, `a$ A 1.1.1.1`, addr(t, `a\$.e.`, 9))
	refuses(t, `"$TTL" 5`, api.ErrOwner, 1, 1)
	refuses(t, `"$ORIGIN" f`, api.ErrOwner, 1, 1)
	refuses(t, " $TTL 5", api.ErrOwner, 1, 2)
	refuses(t, "a A 1.1.1.1\n\t$TTL 5", api.ErrType, 2, 2)
	refuses(t, "a A 1.1.1.1\n $ORIGIN f", api.ErrType, 2, 2)
	tells(t, "(\n $TTL) 5\na A 1.1.1.1", addr(t, "a.e.", 5)) // the line with which it begins is not blank
	refuses(t, " (\n$TTL) 5", api.ErrOwner, 2, 1)
	tells(t, "$TTL (\n5\n) ; x\n$ORIGIN(f)\na A 1.1.1.1", addr(t, "a.f.e.", 5))
}

func TestOwners(t *testing.T) { // P9.1
	for _, x := range [][2]string{
		{"a", "a.e."}, {"A.b", "a.b.e."}, {"a.", "a."}, {"@", "e."}, {".", "."}, {`\@`, `\@.e.`}, {"@.", `\@.`}, {"*", "*.e."}, {"5", "5.e."}, {"IN", "in.e."}, {"CH", "ch.e."}, {"A", "a.e."}, {"TYPE1.", "type1."},
		{`a\.B`, `a\.b.e.`}, {`\065\000`, `a\000.e.`}, {"\\ \\;\\(", `\032\;\(.e.`}, {"\xff\xc3\x84", `\255\195\132.e.`}, {strings.Repeat("A", 63), strings.Repeat("a", 63) + ".e."}, {strings.Repeat("a.", 127), strings.Repeat("a.", 127)}, {strings.Repeat("a.", 125) + "a", strings.Repeat("a.", 126) + "e."},
	} {
		tells(t, x[0]+" A 1.1.1.1", addr(t, x[1], 9))
		tells(t, x[0]+" A 1.1.1.1\n NS @\n\tNS @\n$ORIGIN f\n$TTL 5\n\r NS @", addr(t, x[1], 9), host(t, x[1], 9, api.TypeNS, "e."), host(t, x[1], 9, api.TypeNS, "e."), host(t, x[1], 5, api.TypeNS, "f.e."))
		tells(t, "b NS @\n"+x[0]+" A 1.1.1.1\n A 1.1.1.1", host(t, "b.e.", 9, api.TypeNS, "e."), addr(t, x[1], 9), addr(t, x[1], 9))
	}
	for _, word := range []string{`"a"`, `"@"`, `""`, `"."`, "a..b", "..", ".a", `\256`, `a\1`, strings.Repeat("a", 64), strings.Repeat("a.", 128), strings.Repeat("a.", 126) + "a", `"a"b`} {
		refuses(t, word+" A 1.1.1.1", api.ErrOwner, 1, 1)
		refuses(t, "a A 1.1.1.1\n"+word+" A 1.1.1.1", api.ErrOwner, 2, 1)
		refuses(t, "(\n "+word+" CH 2147483648 X )", api.ErrOwner, 2, 2)
		refuses(t, word, api.ErrOwner, 1, 1)
	}
	refuses(t, "a\\\nA 1.1.1.1", api.ErrOwner, 1, 1)
	for _, text := range []string{" A 1.1.1.1", "\tA 1.1.1.1", "\rA", " CH 2147483648 X", " x", " @ A 1.1.1.1", ` "a"`} {
		refuses(t, text, api.ErrOwner, 1, 2)
		refuses(t, "$TTL 5\n$ORIGIN f\n\n; a A 1.1.1.1\n"+text, api.ErrOwner, 5, 2)
	}
	tells(t, "\nb A 1.1.1.1 ; x\n\n(\n)\n ; y\n A 1.1.1.1", addr(t, "b.e.", 9), addr(t, "b.e.", 9))
}

func TestTTLThatHolds(t *testing.T) { // P9.1
	tells(t, "a A 1.1.1.1\nb 3 A 1.1.1.1\nc A 1.1.1.1\nd 4 A 1.1.1.1\n A 1.1.1.1\nf IN A 1.1.1.1",
		addr(t, "a.e.", 9), addr(t, "b.e.", 3), addr(t, "c.e.", 3), addr(t, "d.e.", 4), addr(t, "d.e.", 4), addr(t, "f.e.", 4))
	tells(t, "a 3 A 1.1.1.1\n$TTL 7\nb A 1.1.1.1\nc 4 A 1.1.1.1\nd A 1.1.1.1\n$TTL 8\ng A 1.1.1.1\nh 0 A 1.1.1.1\ni A 1.1.1.1",
		addr(t, "a.e.", 3), addr(t, "b.e.", 7), addr(t, "c.e.", 4), addr(t, "d.e.", 7), addr(t, "g.e.", 8), addr(t, "h.e.", 0), addr(t, "i.e.", 8))
	tells(t, "a 0 A 1.1.1.1\nb A 1.1.1.1\n$ORIGIN f\nc A 1.1.1.1", addr(t, "a.e.", 0), addr(t, "b.e.", 0), addr(t, "c.f.e.", 0))
	tells(t, "$TTL 0\na A 1.1.1.1\nb 2 A 1.1.1.1\nc A 1.1.1.1", addr(t, "a.e.", 0), addr(t, "b.e.", 2), addr(t, "c.e.", 0))
	tells(t, "a SOA b c 1 2 3 4 5\na A 1.1.1.1", rec(t, "a.e.", 9, api.TypeSOA, api.Data{Host: named(t, "b.e."), Mail: named(t, "c.e."), N: [5]uint32{1, 2, 3, 4, 5}}), addr(t, "a.e.", 9))
}

func TestTypes(t *testing.T) { // P9.1
	for _, x := range [][2]string{{"A", "1.1.1.1"}, {"a", "1.1.1.1"}, {"TYPE1", "1.1.1.1"}, {"type1", `\# 4 01010101`}, {"A", `\# 4 0101 0101`}} {
		tells(t, "a "+x[0]+" "+x[1], addr(t, "a.e.", 9))
	}
	for _, kind := range []uint16{0, 3, api.TypeOPT, 99, api.TypeAXFR, api.TypeANY, 65535} {
		tells(t, "a TyPe"+strconv.Itoa(int(kind))+` \# 2 aB 43`, rec(t, "a.e.", 9, kind, api.Data{Raw: "\xabC"}))
		tells(t, "a type"+strconv.Itoa(int(kind))+` \# 0`, rec(t, "a.e.", 9, kind, api.Data{}))
	}
	for _, word := range []string{"X", `"A"`, "TYPE", "TYPE01", "TYPE65536", "TYPE-1", `\A`, `\065`, "@", ".", "a.", "IN.", "1.1.1.1", "01", "4294967296", "-1", "+1", "1h", `""`, `"IN"`, `"5"`, `\073N`, "OPT", "ANY", "AXFR", "IXFR", "\xff", "$TTL", "C\u017f", "H\u017f", "\u0130N"} {
		refuses(t, "a "+word+" 1.1.1.1", api.ErrType, 1, 3)
		refuses(t, "a A 1.1.1.1\n 5\tIN "+word, api.ErrType, 2, 7)
	}
	for _, rest := range []string{"", " 5", " IN", " 5 IN", " IN 5", "(\n5\nIN)", " 5 ; A 1.1.1.1"} {
		refuses(t, "a"+rest, api.ErrType, 1, 1)
		refuses(t, "b A 1.1.1.1\n(\n\t@"+rest+"\n)", api.ErrType, 3, 2)
	}
	refuses(t, "a A 1.1.1.1\n  IN", api.ErrType, 2, 3)
	refuses(t, "a A 1.1.1.1\n 5 IN", api.ErrType, 2, 2)
}

func TestData(t *testing.T) { // P9.1
	tells(t, "@ SOA NS.a. M 1 2 3 4 4294967295", rec(t, "e.", 9, api.TypeSOA, api.Data{Host: named(t, "ns.a."), Mail: named(t, "m.e."), N: [5]uint32{1, 2, 3, 4, 1<<32 - 1}}))
	tells(t, "$ORIGIN F\na CNAME B\na PTR @\na NS C.", host(t, "a.f.e.", 9, api.TypeCNAME, "b.f.e."), host(t, "a.f.e.", 9, api.TypePTR, "f.e."), host(t, "a.f.e.", 9, api.TypeNS, "c."))
	tells(t, "_s._Tcp SRV 1 2 3 W", rec(t, "_s._tcp.e.", 9, api.TypeSRV, api.Data{Host: named(t, "w.e."), N: [5]uint32{1, 2, 3}}))
	tells(t, "a AAAA ::1", rec(t, "a.e.", 9, api.TypeAAAA, api.Data{Raw: strings.Repeat("\x00", 15) + "\x01"}))
	tells(t, "a TXT \"B ;c\" D\\.\\065\"\"( IN\n5 )", rec(t, "a.e.", 9, api.TypeTXT, api.Data{Raw: "\x04B ;c\x03D.A\x00\x02IN\x015"}))
	tells(t, `a NS \# 6 0141 0242 4300`, host(t, "a.e.", 9, api.TypeNS, "a.bc."))
	tells(t, "a 5 NS IN\na NS 5\na NS A", host(t, "a.e.", 5, api.TypeNS, "in.e."), host(t, "a.e.", 5, api.TypeNS, "5.e."), host(t, "a.e.", 5, api.TypeNS, "a.e."))
	for _, rest := range []string{"A", "A 1.1.1", "A 1.1.1.1 1.1.1.1", `A "1.1.1.1"`, "A ::1", "NS", `NS "b"`, "NS a..b", "NS b c", "MX 5", "MX b 5", "MX 65536 b", "SOA a b 1 2 3 4", "SRV 1 2 b", "AAAA 1.1.1.1", "TXT", `TXT \256`, "TXT " + strings.Repeat("a", 256), "TYPE99", "TYPE99 1", `TYPE99 \# 1`, `TYPE99 "\#" 0`, `A \# 3 010101`, "NS " + strings.Repeat("a.", 126) + "a", "A IN 1.1.1.1", "A 5 1.1.1.1", `CNAME \`} {
		refuses(t, "a "+rest, api.ErrWords, 1, 3)
		refuses(t, "a A 1.1.1.1\n(5\n  IN\n "+rest+"\n)", api.ErrWords, 4, 2)
	}
}

func TestMostRecords(t *testing.T) { // P9.1
	line := "a A 1.1.1.1\n"
	full := strings.Repeat(line, api.MaxRecords)
	if l, s, e := Parse(full, origin, ttl); len(l) != api.MaxRecords || s != (api.Spot{}) || e != api.OK {
		t.Errorf("of %d records: %d, %v, %v", api.MaxRecords, len(l), s, e)
	}
	if l, s, e := Parse("$TTL 5\n"+full+"$ORIGIN f\n\n; x\n", origin, ttl); len(l) != api.MaxRecords || s != (api.Spot{}) || e != api.OK {
		t.Errorf("of %d records and three more entries: %d, %v, %v", api.MaxRecords, len(l), s, e)
	}
	for _, more := range []string{"a A 1.1.1.1", "a..b CH 2147483648 X", `"a"`, "a CH", "a 2147483648", "a X", "a A x", "a"} {
		refuses(t, full+more, api.ErrLong, api.MaxRecords+1, 1)
		refuses(t, full+"$TTL 5\n\n  "+strings.TrimPrefix(more, "a "), api.ErrLong, api.MaxRecords+3, 3)
		refuses(t, full+more+"\n$X\n"+full, api.ErrLong, api.MaxRecords+1, 1)
	}
	refuses(t, full+"$X\n"+line, api.ErrDirective, api.MaxRecords+1, 1)
	refuses(t, full[len(line):]+"a A x\n"+line, api.ErrWords, api.MaxRecords, 3)
	refuses(t, full+line+")", api.ErrParen, api.MaxRecords+2, 1)
}

func TestAnswersAreNew(t *testing.T) { // P9.1
	text := "a A 1.1.1.1\n NS b\n"
	l, _, _ := Parse(text, origin, ttl)
	whole := l[:cap(l)]
	for i := range whole {
		whole[i] = api.Record{Name: "x"}
	}
	tells(t, text, addr(t, "a.e.", 9), host(t, "a.e.", 9, api.TypeNS, "b.e."))
}
