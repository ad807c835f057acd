package master

import (
	"regexp"
	"slices"
	"strings"
	"testing"

	"hearsay/api"
	"hearsay/name"
	"hearsay/rdata"
	"hearsay/token"
)

// lowered is a record in small letters, by another way than the package's.
func lowered(x api.Record) api.Record {
	lower := func(n api.Name) api.Name {
		b := []byte(n)
		for i, c := range b {
			if 'A' <= c && c <= 'Z' {
				b[i] = c + 'a' - 'A'
			}
		}
		return api.Name(b)
	}
	x.Name, x.Data.Host, x.Data.Mail = lower(x.Name), lower(x.Data.Host), lower(x.Data.Mail)
	return x
}

// back asks for the records of the text that tells these, whatever is handed in.
func back(t *testing.T, of api.Name, l []api.Record) {
	t.Helper()
	s, e := Print(of, l)
	if e != api.OK {
		t.Fatalf("Print(%s) = %v", brief(l), e)
	}
	var want []api.Record
	for _, x := range l {
		want = append(want, lowered(x))
	}
	for _, n := range []api.Name{api.Root, origin, "\x01$\x01@\x00", api.Name(strings.Repeat("\x01a", 127) + "\x00")} {
		for _, ttl := range []uint32{0, 9, api.MaxTTL} {
			if k, spot, e := Parse(s, n, ttl); !slices.Equal(k, want) || spot != (api.Spot{}) || e != api.OK {
				t.Errorf("Parse(%.80q, %.10q, %d) = %s, %v, %v, not %s", s, string(n), ttl, brief(k), spot, e, brief(want))
			}
		}
	}
}

func TestParseOfPrint(t *testing.T) { // P9.3
	back(t, origin, nil)
	var all []api.Record
	for c := range 256 {
		n := api.Name([]byte{1, byte(c), 3, 'A', byte(c), '.', 0})
		text := string([]byte{2, 'A', byte(c), 0})
		l := []api.Record{
			{Name: n, Type: api.TypeNS, Class: api.ClassIN, TTL: uint32(c), Data: api.Data{Host: n}},
			{Name: n, Type: api.TypeSOA, Class: api.ClassIN, TTL: api.MaxTTL, Data: api.Data{Host: api.Root, Mail: n, N: [5]uint32{1, 2, 3, 4, 1<<32 - 1}}},
			{Name: api.Root, Type: api.TypeTXT, Class: api.ClassIN, Data: api.Data{Raw: text}},
			{Name: "\x02IN\x00", Type: uint16(c + 100), Class: api.ClassIN, Data: api.Data{Raw: text}},
			{Name: "\x019\x00", Type: api.TypeA, Class: api.ClassIN, Data: api.Data{Raw: text}},
			{Name: "\x01@\x00", Type: api.TypeAAAA, Class: api.ClassIN, Data: api.Data{Raw: strings.Repeat(text, 4)}},
			{Name: "\x01*\x00", Type: api.TypeMX, Class: api.ClassIN, Data: api.Data{Host: n, N: [5]uint32{uint32(c)}}},
			{Name: "\x01\\\x00", Type: api.TypeSRV, Class: api.ClassIN, Data: api.Data{Host: n, N: [5]uint32{65535, uint32(c), 0}}},
		}
		back(t, n, l)
		all = append(all, l...)
	}
	back(t, api.Root, all)
	for _, raw := range []string{"\x02\\#", "\x02\\#\x011\x0200", "\x00", "\x00\x00", "\x03\xff\x80\xc3", "\xff" + strings.Repeat("\"", 255)} {
		back(t, api.Root, []api.Record{{Name: api.Root, Type: api.TypeTXT, Class: api.ClassIN, Data: api.Data{Raw: raw}}})
	}
	for _, kind := range []uint16{0, 3, api.TypeOPT, 99, api.TypeAXFR, api.TypeANY, 65535} {
		back(t, api.Root, []api.Record{{Name: api.Root, Type: kind, Class: api.ClassIN}, {Name: api.Root, Type: kind, Class: api.ClassIN, Data: api.Data{Raw: "\xff\x00"}}})
	}
	back(t, api.Root, sized(t, api.MaxText))
	back(t, api.Root, slices.Repeat(all, 4)[:api.MaxRecords])
}

// saying is one entry's text, and what it tells: an origin, a TTL, or a record; an owner or a TTL of no bytes, or below 0, is that of another one.
type saying struct {
	text   string
	origin string
	holds  int
	record bool
	owner  string
	ttl    int
	wrong  api.Errno
	col    int
}

// sayings are some.
func sayings() []saying {
	return []saying{
		{text: "$ORIGIN F", origin: "f", holds: -1},
		{text: "$origin G. ; x", origin: "g.", holds: -1},
		{text: "$TTL 7", holds: 7},
		{text: "$Ttl (0)", holds: 0},
		{text: "A A 1.1.1.1", holds: -1, record: true, owner: "a", ttl: -1},
		{text: "@ 3 A 1.1.1.1", holds: -1, record: true, owner: "@", ttl: 3},
		{text: "b. IN 0 A 1.1.1.1", holds: -1, record: true, owner: "b.", ttl: 0},
		{text: " A 1.1.1.1", holds: -1, record: true, ttl: -1, col: 2},
		{text: "\t4 in a 1.1.1.1", holds: -1, record: true, ttl: 4, col: 2},
		{text: "$X", holds: -1, wrong: api.ErrDirective, col: 1},
		{text: "a CH A 1.1.1.1", holds: -1, wrong: api.ErrClass, col: 3},
	}
}

// told is what sayings tell together, by looking back from each of them.
func told(t *testing.T, l []saying) ([]api.Record, api.Spot, api.Errno) {
	var out []api.Record
	ownerOf := func(i int) api.Name {
		for ; i >= 0; i-- {
			if l[i].record && l[i].owner != "" {
				return wholly(t, l[:i], l[i].owner)
			}
		}
		return ""
	}
	ttlOf := func(i int) uint32 {
		if l[i].ttl >= 0 {
			return uint32(l[i].ttl)
		}
		for k := i - 1; k >= 0; k-- {
			if l[k].holds >= 0 {
				return uint32(l[k].holds)
			}
		}
		for k := i - 1; k >= 0; k-- {
			if l[k].record && l[k].ttl >= 0 {
				return uint32(l[k].ttl)
			}
		}
		return ttl
	}
	for i, x := range l {
		if x.wrong != api.OK {
			return nil, api.Spot{Line: i + 1, Col: x.col}, x.wrong
		}
		if !x.record {
			continue
		}
		owner := ownerOf(i)
		if owner == "" {
			return nil, api.Spot{Line: i + 1, Col: x.col}, api.ErrOwner
		}
		out = append(out, api.Record{Name: owner, Type: api.TypeA, Class: api.ClassIN, TTL: ttlOf(i), Data: one})
	}
	return out, api.Spot{}, api.OK
}

// wholly is a name's text behind some sayings, as a name: the origins of all of them up to the last whole one stand behind it.
func wholly(t *testing.T, ahead []saying, text string) api.Name {
	t.Helper()
	if text == "@" {
		text = ""
	}
	for i := len(ahead) - 1; i >= 0 && !strings.HasSuffix(text, "."); i-- {
		if ahead[i].origin != "" {
			text = strings.TrimPrefix(text+"."+ahead[i].origin, ".")
		}
	}
	if !strings.HasSuffix(text, ".") {
		text = strings.TrimPrefix(text+".e.", ".")
	}
	return named(t, text)
}

// asked asks about sayings in this order, a line each.
func asked(t *testing.T, l []saying) {
	t.Helper()
	text := ""
	for _, x := range l {
		text += x.text + "\n"
	}
	want, at, wrong := told(t, l)
	if k, s, e := Parse(text, origin, ttl); !slices.Equal(k, want) || s != at || e != wrong {
		t.Errorf("Parse(%q) = %s, %v, %v, not %s, %v, %v", text, brief(k), s, e, brief(want), at, wrong)
	}
}

func TestSayingsInAnyOrder(t *testing.T) { // P9.1, P9.4
	all := sayings()
	for _, a := range all {
		asked(t, []saying{a})
		for _, b := range all {
			asked(t, []saying{a, b})
			for _, c := range all {
				asked(t, []saying{a, b, c})
				for _, d := range all {
					asked(t, []saying{a, b, c, d})
				}
			}
		}
	}
}

// front is what may stand ahead of a type, as the kinds of its words: a number N, one that is too great B, the class I, another one C.
var front = regexp.MustCompile(`^(NI?|IN?)?`)

// head tells where the type's word stands among words of these kinds, or at which of them what is wrong.
func head(kinds string) (int, api.Errno) {
	found := front.FindString(kinds)
	next := strings.TrimPrefix(kinds, found)
	switch {
	case strings.HasPrefix(next, "B") && !strings.Contains(found, "N"):
		return len(found), api.ErrTTL
	case strings.HasPrefix(next, "C") && !strings.Contains(found, "I"):
		return len(found), api.ErrClass
	case next == "":
		return -1, api.ErrType
	case next[0] != 'T':
		return len(found), api.ErrType
	case next != "TD":
		return len(found), api.ErrWords
	}
	return len(found), api.OK
}

func TestWhatStandsAheadOfTheType(t *testing.T) { // P9.1
	words := []struct{ kind, text string }{
		{"N", "0"}, {"N", "2147483647"}, {"B", "2147483648"}, {"B", "4294967295"}, {"I", "IN"}, {"I", "iN"}, {"C", "CH"}, {"C", "cs"}, {"C", "Hs"}, {"T", "A"}, {"D", "1.1.1.1"},
		{"X", "4294967296"}, {"X", "00"}, {"X", "07"}, {"X", "+7"}, {"X", "-7"}, {"X", "1_0"}, {"X", `\055`}, {"X", `"7"`}, {"X", `"IN"`}, {"X", `"CH"`}, {"X", `I\N`}, {"X", `"A"`}, {"X", "NONE"}, {"X", "C\u017f"},
	}
	ask := func(some ...int) {
		t.Helper()
		kinds, text := "", "a"
		cols := []int{1}
		value := ttl
		for _, i := range some {
			cols = append(cols, len(text)+2)
			kinds, text = kinds+words[i].kind, text+" "+words[i].text
		}
		at, e := head(kinds)
		if e != api.OK {
			refuses(t, text, e, 1, cols[at+1])
			return
		}
		for _, i := range some {
			if words[i].text == "0" {
				value = 0
			} else if words[i].kind == "N" {
				value = api.MaxTTL
			}
		}
		tells(t, text, addr(t, "a.e.", value))
	}
	ask()
	for a := range words {
		ask(a)
		for b := range words {
			ask(a, b)
			ask(a, b, 9, 10)
			for c := range words {
				ask(a, b, c)
				ask(a, b, c, 10)
				ask(a, b, c, 9, 10)
			}
		}
	}
}

// behind tells whether a place stands behind another one.
func behind(a, b api.Spot) bool {
	return a.Line > b.Line || a.Line == b.Line && a.Col > b.Col
}

func TestWhatStandsBehind(t *testing.T) { // P9.4
	texts := []string{"", "a A 1.1.1.1", "b 3 IN NS (\n@ )", " TXT \"x\" ; y", "$TTL 5", "$ORIGIN f.", "\n\n", "$X", "a..b", " X", "a 2147483648", "a HS", "a A x", strings.Repeat("a A 1.1.1.1\n", api.MaxRecords)}
	for _, a := range texts {
		l, at, e := Parse(a, origin, ttl)
		end := api.Spot{Line: 1 + strings.Count(a, "\n"), Col: 1 << 20}
		for _, b := range texts {
			k, spot, wrong := Parse(a+"\n"+b, origin, ttl)
			switch {
			case e != api.OK:
				if len(k) > 0 || spot != at || wrong != e {
					t.Errorf("Parse(%.40q) = %v at %v, but with %.40q behind %v at %v", a, e, at, b, wrong, spot)
				}
			case wrong != api.OK:
				if !behind(spot, end) {
					t.Errorf("Parse(%.40q) is right, but with %.40q behind %v at %v", a, b, wrong, spot)
				}
			case len(k) < len(l) || !slices.Equal(k[:len(l)], l):
				t.Errorf("Parse(%.40q) = %s, but with %.40q behind %s", a, brief(l), b, brief(k))
			}
		}
	}
}

// FuzzParse reads any text: what it answers may be, and is told again.
func FuzzParse(f *testing.F) {
	f.Add("@ 60 IN A 1.1.1.1\n IN 5 NS a\n", "\x01e\x00", uint32(9))
	f.Add("$TTL 7\n$ORIGIN f\na MX ( 5\n @ ) ; x\n", "\x00", uint32(0))
	f.Add("a..b CH 2147483648 X\n", "\x01e\x00", uint32(1<<31-1))
	f.Add("a TYPE99 \\# 2 aB43\n\tTXT \"\\065;\" b", "\x01$\x00", uint32(1))
	f.Add("a", "e", uint32(1<<31))
	f.Fuzz(func(t *testing.T, text, o string, ttl uint32) {
		of := api.Name(o)
		l, spot, e := Parse(text, of, ttl)
		if e != api.OK {
			entries, _, _ := token.Entries(text)
			placed := spot == (api.Spot{})
			for _, entry := range entries {
				for _, w := range entry.Words {
					placed = placed || spot == api.Spot{Line: w.Line, Col: w.Col}
				}
			}
			if len(l) > 0 || !placed && len(entries) > 0 {
				t.Errorf("Parse(%q) = %s, %v, %v", text, brief(l), spot, e)
			}
			return
		}
		for _, x := range l {
			if name.Check(x.Name) != api.OK || x.Class != api.ClassIN || x.TTL > api.MaxTTL || rdata.Check(x.Type, x.Data) != api.OK || x.Name != name.Fold(x.Name) || x.Data != rdata.Fold(x.Type, x.Data) {
				t.Errorf("Parse(%q) = %s", text, brief(l))
			}
		}
		s, e := Print(of, l)
		if e == api.ErrLong {
			return
		}
		if k, spot, wrong := Parse(s, api.Root, 0); e != api.OK || !slices.Equal(k, l) || spot != (api.Spot{}) || wrong != api.OK {
			t.Errorf("Parse(%q) = %s, told as %q: %v, %s, %v, %v", text, brief(l), s, e, brief(k), spot, wrong)
		}
	})
}
