package name

import (
	"strconv"
	"strings"
	"testing"

	"hearsay/api"
)

func TestBytes(t *testing.T) { // P1.6
	for _, x := range [][2]string{
		{"", ""}, {"a b\"\n\xff", "a b\"\n\xff"}, {`a\.b`, "a.b"}, {`\\`, `\`}, {`\"`, `"`}, {`\a\ `, "a "}, {"\\\x00\\\xff", "\x00\xff"},
		{`\000`, "\x00"}, {`\255`, "\xff"}, {`\0651`, "A1"}, {`\065\066`, "AB"}, {`\\065`, `\065`}, {`1\.065`, "1.065"}, {`\:\/`, ":/"},
	} {
		if b, e := Bytes(x[0]); e != api.OK || b != x[1] {
			t.Errorf("Bytes(%q) = %q, %v", x[0], b, e)
		}
	}
	for _, s := range []string{
		`\`, `a\`, `\\\`, `\1`, `\12`, `\12a`, `\1a2`, `\1 2`, `\25.`, `\2_5`, `\1+5`, `\256`, `\999`, `\300a`, `a\25`, `ok\065\06`, `\0\065`,
	} {
		if b, e := Bytes(s); e != api.ErrEscape || b != "" {
			t.Errorf("Bytes(%q) = %q, %v", s, b, e)
		}
	}
}

func TestEscape(t *testing.T) { // P1.6
	for c := range 256 {
		number := "\\" + strings.Repeat("0", 3-len(strconv.Itoa(c))) + strconv.Itoa(c)
		s := string([]byte{byte(c)})
		bare, quoted := number, number
		if c >= 32 && c <= 126 {
			quoted = s
		}
		if c >= 33 && c <= 126 {
			bare = s
		}
		if strings.Contains(`"\.;()@$`, s) {
			bare = `\` + s
		}
		if strings.Contains(`"\`, s) {
			quoted = `\` + s
		}
		if got := Escape(s, false); got != bare {
			t.Errorf("Escape(%q, false) = %q", s, got)
		}
		if got := Escape(s, true); got != quoted {
			t.Errorf("Escape(%q, true) = %q", s, got)
		}
	}
	if s := Escape("", false) + Escape("", true); s != "" {
		t.Errorf("of no bytes: %q", s)
	}
	if s := Escape("a b\x00.\xff", false); s != `a\032b\000\.\255` {
		t.Errorf("Escape = %q", s)
	}
	if s := Escape("a b\x00.\xff", true); s != `a b\000.\255` {
		t.Errorf("Escape, quoted = %q", s)
	}
}

func TestBytesOfEscape(t *testing.T) { // P1.8
	for c := range 256 {
		for d := range 256 {
			s := string([]byte{byte(c), byte(d), byte(c)})
			for _, quoted := range []bool{false, true} {
				if b, e := Bytes(Escape(s, quoted)); e != api.OK || b != s {
					t.Fatalf("Bytes(Escape(%q, %v)) = %q, %v", s, quoted, b, e)
				}
			}
		}
	}
}

func TestParse(t *testing.T) { // P1.7
	s := strings.Repeat("a", 63)
	for _, x := range []struct {
		text string
		n    api.Name
	}{
		{".", api.Root}, {"a", "\x01a\x01b\x00"}, {"a.", "\x01a\x00"}, {"a.C", "\x01a\x01C\x01b\x00"}, {"a.C.", "\x01a\x01C\x00"},
		{`a\.b`, "\x03a.b\x01b\x00"}, {`a\.`, "\x02a.\x01b\x00"}, {`\.`, "\x01.\x01b\x00"}, {`\..`, "\x01.\x00"}, {`\\.`, "\x01\\\x00"}, {`\\\..`, "\x02\\.\x00"}, {`\\.a.`, "\x01\\\x01a\x00"},
		{`\046.`, "\x01.\x00"}, {`\065`, "\x01A\x01b\x00"}, {"@", "\x01@\x01b\x00"}, {" \".", "\x02 \"\x00"}, {"*.", "\x01*\x00"},
		{s, api.Name("\x3f" + s + "\x01b\x00")},
		{s + "." + s + "." + s + "." + s[:61] + ".", api.Name("\x3f" + s + "\x3f" + s + "\x3f" + s + "\x3d" + s[:61] + "\x00")},
		{s + "." + s + "." + s + "." + s[:59], api.Name("\x3f" + s + "\x3f" + s + "\x3f" + s + "\x3b" + s[:59] + "\x01b\x00")},
		{strings.Repeat(`\097`, 63) + ".", api.Name("\x3f" + s + "\x00")},
	} {
		if n, e := Parse(x.text, "\x01b\x00"); e != api.OK || n != x.n {
			t.Errorf("Parse(%q) = %q, %v", x.text, string(n), e)
		}
	}
	if n, e := Parse("a", api.Root); e != api.OK || n != "\x01a\x00" {
		t.Errorf("at the root: %q, %v", string(n), e)
	}
}

func TestParseOfWhatIsWrong(t *testing.T) { // P1.7
	s := strings.Repeat("a", 63)
	long := strings.Repeat(s+".", 4)
	for _, x := range []struct {
		text string
		e    api.Errno
	}{
		{"", api.ErrLabel}, {"..", api.ErrLabel}, {"a..b", api.ErrLabel}, {".a", api.ErrLabel}, {"a..", api.ErrLabel}, {"...", api.ErrLabel},
		{s + "a", api.ErrLabel}, {s + "a.", api.ErrLabel}, {strings.Repeat(`\097`, 64), api.ErrLabel},
		{`\256`, api.ErrEscape}, {`\`, api.ErrEscape}, {`\1`, api.ErrEscape}, {`a\`, api.ErrEscape}, {`a.b\`, api.ErrEscape}, {`\0.1`, api.ErrEscape}, {`\25.5.`, api.ErrEscape},
		{`a..\`, api.ErrLabel}, {`\256..`, api.ErrEscape}, {`..\256`, api.ErrLabel}, {s + `a\256`, api.ErrEscape},
		{long, api.ErrLong}, {long + "a", api.ErrLong}, {long + ".", api.ErrLabel}, {long + `\`, api.ErrEscape}, {long + s + "a", api.ErrLabel},
		{s + "." + s + "." + s + "." + s[:62] + ".", api.ErrLong},
		{s + "." + s + "." + s + "." + s[:60], api.ErrLong},
		{strings.Repeat("a.", 128), api.ErrLong}, {strings.Repeat("a.", 127) + "a", api.ErrLong}, {strings.Repeat("a.", 126) + "a", api.ErrLong},
		{strings.Repeat("a.", 100000), api.ErrLong},
	} {
		if n, e := Parse(x.text, "\x01b\x00"); e != x.e || n != "" {
			t.Errorf("Parse(%.20q) = %q, %v, not %v", x.text, string(n), e, x.e)
		}
	}
	for _, no := range noNames() {
		for _, text := range []string{".", "a", "a.", "", `\`, long} {
			if n, e := Parse(text, no); e != api.ErrName || n != "" {
				t.Errorf("Parse(%.20q, %.20q) = %q, %v", text, string(no), string(n), e)
			}
		}
	}
}

func TestText(t *testing.T) { // P1.7
	for _, x := range []struct {
		n    api.Name
		text string
	}{
		{api.Root, "."}, {"\x01a\x00", "a."}, {"\x03Www\x01a\x00", "Www.a."}, {"\x03a.b\x00", `a\.b.`}, {"\x02\x00\xff\x00", `\000\255.`}, {"\x08\";()@$\\ \x00", `\"\;\(\)\@\$\\\032.`},
	} {
		if s := Text(x.n); s != x.text {
			t.Errorf("Text(%q) = %q", string(x.n), s)
		}
	}
	for _, n := range noNames() {
		if s := Text(n); s != "" {
			t.Errorf("Text(%.20q) = %q", string(n), s)
		}
	}
}

func TestParseOfText(t *testing.T) { // P1.8
	l := names(t)
	for c := range 256 {
		l = append(l, api.Name([]byte{1, byte(c), 2, byte(c), '.', 0}))
	}
	for _, n := range l {
		for _, origin := range names(t) {
			if back, e := Parse(Text(n), origin); e != api.OK || back != n {
				t.Fatalf("Parse(Text(%q), %q) = %q, %v", string(n), string(origin), string(back), e)
			}
		}
	}
}

// FuzzText asks every call about any bytes: none panics, and what one tells another one reads.
func FuzzText(f *testing.F) {
	for _, s := range []string{"", ".", "a", `a\.b.`, `\256`, "\x01a\x00", "\x01a", "\xc0\x00"} {
		f.Add(s, "\x01b\x00")
	}
	f.Fuzz(func(t *testing.T, s, o string) {
		n, origin := api.Name(s), api.Name(o)
		Under(n, origin)
		Cmp(n, origin)
		Last(n, len(s)%5-1)
		Parent(n)
		Wild(n)
		Bytes(s)
		Escape(s, true)
		if p, e := Parse(s, origin); e == api.OK && Check(p) != api.OK || e != api.OK && p != "" {
			t.Errorf("Parse(%q, %q) = %q, %v", s, o, string(p), e)
		}
		if j, e := Join(n, origin); e == api.OK && !Under(j, origin) {
			t.Errorf("Join(%q, %q) = %q", s, o, string(j))
		}
		if of, e := Of(Labels(n)...); Check(n) == api.OK && (e != api.OK || of != n) {
			t.Errorf("Of(Labels(%q)) = %q, %v", s, string(of), e)
		}
	})
}
