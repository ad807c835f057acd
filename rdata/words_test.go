package rdata

import (
	"slices"
	"strconv"
	"strings"
	"testing"

	"hearsay/api"
	"hearsay/name"
)

// origin is the one with which words are read here.
const origin api.Name = "\x01a\x00"

// cut are the words of a text, parted by blanks that are not in quotes.
func cut(t *testing.T, text string) []api.Word {
	t.Helper()
	var l []api.Word
	for text != "" {
		end, from := 0, 0
		quoted := text[0] == '"'
		if quoted {
			from = 1
		}
		for end = from; end < len(text); end++ {
			if text[end] == '\\' {
				end++
			} else if quoted && text[end] == '"' || !quoted && text[end] == ' ' {
				break
			}
		}
		if end > len(text) || quoted && end == len(text) {
			t.Fatalf("no words: %q", text)
		}
		l = append(l, api.Word{Text: text[from:end], Quoted: quoted, Line: 1, Col: 1 + len(l)})
		if quoted {
			end++
		}
		if end < len(text) && text[end] != ' ' {
			t.Fatalf("no blank behind a word: %q", text)
		}
		text = strings.TrimPrefix(text[end:], " ")
	}
	return l
}

// reads asks Read for the data that a text's words tell.
func reads(t *testing.T, kind uint16, text string, want api.Data) {
	t.Helper()
	l := cut(t, text)
	before := slices.Clone(l)
	if d, e := Read(kind, l, origin); d != want || e != api.OK {
		t.Errorf("Read(%d, %.80s) = %.40q, %q, %q, %v, %v", kind, text, d.Raw, string(d.Host), string(d.Mail), d.N, e)
	}
	if !slices.Equal(l, before) {
		t.Errorf("Read changed its words: %v", l)
	}
}

// refuses asks Read for what texts do not tell.
func refuses(t *testing.T, kind uint16, texts ...string) {
	t.Helper()
	for _, text := range texts {
		if d, e := Read(kind, cut(t, text), origin); d != (api.Data{}) || e != api.ErrWords {
			t.Errorf("Read(%d, %.80s) = %.40q, %q, %q, %v, %v", kind, text, d.Raw, string(d.Host), string(d.Mail), d.N, e)
		}
	}
}

func TestReadOrigin(t *testing.T) { // P4.5
	for _, n := range []api.Name{"", "a", "\x01a", "\x01a" + longest} {
		for _, text := range []string{"1.2.3.4", "x", "", `\# 4 01020304`} {
			if d, e := Read(api.TypeA, cut(t, text), n); d != (api.Data{}) || e != api.ErrName {
				t.Errorf("Read of %q with an origin that is none: %v, %v", text, d, e)
			}
		}
	}
}

func TestReadAddressOfFour(t *testing.T) { // P4.5
	reads(t, 1, "1.2.3.4", api.Data{Raw: "\x01\x02\x03\x04"})
	reads(t, 1, "0.0.0.0", api.Data{Raw: "\x00\x00\x00\x00"})
	reads(t, 1, "255.10.99.200", api.Data{Raw: "\xff\x0a\x63\xc8"})
	refuses(t, 1, "", "1.2.3", "1.2.3.4.5", "1.2.3.4.", ".1.2.3.4", "1..3.4", "1.2.3.256", "256.0.0.0", "1.2.3.4 5", "1.2.3.4 1.2.3.4", `"1.2.3.4"`, `""`,
		"01.2.3.4", "1.2.3.00", "+1.2.3.4", "-1.2.3.4", "1.2.3.x", "0x1.2.3.4", "1.2.3.1_0", `1.2.3.\052`, "1", ".", "...", "a.", "@", "1.2.3.99999999999999999999", "1:2.3.4", "\u0661.2.3.4")
}

func TestReadAddressOfEight(t *testing.T) { // P4.5
	raw := func(groups ...uint16) api.Data {
		var b []byte
		for _, g := range groups {
			b = append(b, byte(g>>8), byte(g))
		}
		return api.Data{Raw: string(b)}
	}
	for _, x := range []struct {
		text string
		d    api.Data
	}{
		{"1:2:3:4:5:6:7:8", raw(1, 2, 3, 4, 5, 6, 7, 8)},
		{"0:00:000:0000:ffff:FFFF:aBc:09", raw(0, 0, 0, 0, 65535, 65535, 0xabc, 9)},
		{"::", raw(0, 0, 0, 0, 0, 0, 0, 0)},
		{"::1", raw(0, 0, 0, 0, 0, 0, 0, 1)},
		{"1::", raw(1, 0, 0, 0, 0, 0, 0, 0)},
		{"1::2", raw(1, 0, 0, 0, 0, 0, 0, 2)},
		{"1:2::7:8", raw(1, 2, 0, 0, 0, 0, 7, 8)},
		{"::2:3:4:5:6:7:8", raw(0, 2, 3, 4, 5, 6, 7, 8)},
		{"1:2:3:4:5:6:7::", raw(1, 2, 3, 4, 5, 6, 7, 0)},
		{"1:2:3::5:6:7:8", raw(1, 2, 3, 0, 5, 6, 7, 8)},
		{"2001:db8::0:ff", raw(0x2001, 0xdb8, 0, 0, 0, 0, 0, 0xff)},
	} {
		reads(t, 28, x.text, x.d)
	}
	refuses(t, 28, "", ":", ":::", "::::", "1", "1:2:3:4:5:6:7", "1:2:3:4:5:6:7:8:9", "1:2:3:4:5:6:7:8:", ":1:2:3:4:5:6:7:8", ":1:2:3:4:5:6:7", "1:2:3:4:5:6:7:",
		"1:2:3:4:5:6:7:8::", "::1:2:3:4:5:6:7:8", "1:2:3:4::5:6:7:8", "1::2::3", "::1::", "1:::2", "1:", ":1", "::1:", ":1::", "1::2:", ":1::2",
		"12345::", "::00001", "g::", "::-1", "::+1", "::0x1", "::1_0", "::1.2.3.4", "::ffff:1.2.3.4", "1.2.3.4", "::1%1", "[::1]", "::1/64", `"::1"`, `""`, "::1 ::1", `\058:1`, "::\uff11")
}

func TestReadNames(t *testing.T) { // P4.5
	for _, kind := range []uint16{2, 5, 12} {
		reads(t, kind, "@", api.Data{Host: origin})
		reads(t, kind, "b", api.Data{Host: "\x01b\x01a\x00"})
		reads(t, kind, "B.", api.Data{Host: "\x01B\x00"})
		reads(t, kind, ".", api.Data{Host: api.Root})
		reads(t, kind, `\@`, api.Data{Host: "\x01@\x01a\x00"})
		reads(t, kind, `b\.c\032\\.`, api.Data{Host: "\x05b.c \\\x00"})
		reads(t, kind, `\##.`, api.Data{Host: "\x02##\x00"})
		reads(t, kind, "1.2.3.4", api.Data{Host: "\x011\x012\x013\x014\x01a\x00"})
		refuses(t, kind, "", `""`, `"b"`, `"@"`, `"."`, "b c", "b.. ", "..", ".b", `\1`, `\256`, strings.Repeat("x", 64), name.Text(longest)+"a.", name.Text(longest[2:])+"b", "@ @")
		if d, e := Read(kind, []api.Word{{Text: ""}}, origin); d != (api.Data{}) || e != api.ErrWords {
			t.Errorf("Read of a word without bytes: %v, %v", d, e)
		}
		if d, e := Read(kind, []api.Word{{Text: "b\\"}}, origin); d != (api.Data{}) || e != api.ErrWords {
			t.Errorf("Read of a backslash at the end: %v, %v", d, e)
		}
	}
}

func TestReadNumbersAndNames(t *testing.T) { // P4.5
	reads(t, 15, "5 @", api.Data{N: [5]uint32{5}, Host: origin})
	reads(t, 15, "0 .", api.Data{Host: api.Root})
	reads(t, 15, "65535 b", api.Data{N: [5]uint32{65535}, Host: "\x01b\x01a\x00"})
	refuses(t, 15, "", "5", "@", "@ 5", "5 b c", "65536 b", "05 b", "00 b", "-1 b", "+1 b", "x b", "1x b", "1.0 b", "0x1 b", "1_0 b", `\053 b`, `"5" b`, `5 "b"`, "5 b..", "99999999999999999999 b", "5 5 b")
	reads(t, 33, "1 2 65535 b", api.Data{N: [5]uint32{1, 2, 65535}, Host: "\x01b\x01a\x00"})
	refuses(t, 33, "", "1 2 3", "1 2 b", "1 2 3 4 b", "1 2 3 b c", "65536 2 3 b", "1 65536 3 b", "1 2 65536 b", "1 2 03 b", `1 2 3 "b"`, `1 "2" 3 b`)
	reads(t, 6, "ns m 1 2 3 4 4294967295", api.Data{Host: "\x02ns\x01a\x00", Mail: "\x01m\x01a\x00", N: [5]uint32{1, 2, 3, 4, 1<<32 - 1}})
	reads(t, 6, `@ x\.y.z. 0 0 0 0 0`, api.Data{Host: origin, Mail: "\x03x.y\x01z\x00"})
	refuses(t, 6, "", "a b", "a b 1 2 3 4", "a b 1 2 3 4 5 6", "a b 1 2 3 4 4294967296", "a b 4294967296 2 3 4 5", "a b 01 2 3 4 5", "a b 1h 2 3 4 5", `"a" b 1 2 3 4 5`, `a "b" 1 2 3 4 5`, `a b 1 2 3 4 "5"`, "1 2 3 4 5 a b", "a.. b 1 2 3 4 5", "a b.. 1 2 3 4 5")
}

func TestReadTexts(t *testing.T) { // P4.5
	full := strings.Repeat("x", 255)
	reads(t, 16, "a", api.Data{Raw: "\x01a"})
	reads(t, 16, `""`, api.Data{Raw: "\x00"})
	reads(t, 16, `"a b" c "" @ .`, api.Data{Raw: "\x03a b\x01c\x00\x01@\x01."})
	reads(t, 16, `\065\"\\ "\000\255\""`, api.Data{Raw: "\x03A\"\\\x03\x00\xff\""})
	reads(t, 16, `"\#" 1 aa`, api.Data{Raw: "\x01#\x011\x02aa"}) // quoted: a text
	reads(t, 16, `a \# 1 aa`, api.Data{Raw: "\x01a\x01#\x011\x02aa"})
	reads(t, 16, `\## 1 aa`, api.Data{Raw: "\x02##\x011\x02aa"})
	reads(t, 16, full, api.Data{Raw: "\xff" + full})
	reads(t, 16, `"`+strings.Repeat(`\120`, 255)+`"`, api.Data{Raw: "\xff" + full})
	reads(t, 16, strings.Repeat(full[:254]+" ", 257), api.Data{Raw: strings.Repeat("\xfe"+full[:254], 257)})
	refuses(t, 16, "", full+"x", strings.Repeat(`\120`, 256), `\1`, `\256`, `"\25x"`, `a \1`, strings.Repeat(full[:254]+" ", 257)+`""`, strings.Repeat(full+" ", 256))
	if d, e := Read(16, []api.Word{{Text: ""}, {Text: "a"}}, origin); d.Raw != "\x00\x01a" || e != api.OK {
		t.Errorf("Read of a text without bytes: %v, %v", d, e)
	}
	if d, e := Read(16, []api.Word{{Text: "a\\", Quoted: true}}, origin); d != (api.Data{}) || e != api.ErrWords {
		t.Errorf("Read of a backslash at the end: %v, %v", d, e)
	}
}

func TestReadAnyData(t *testing.T) { // P4.5
	reads(t, 1, `\# 4 01020304`, api.Data{Raw: "\x01\x02\x03\x04"})
	reads(t, 1, `\# 4 01 0203 04`, api.Data{Raw: "\x01\x02\x03\x04"})
	reads(t, 1, `\# 4 0 1 0 203 0 4`, api.Data{Raw: "\x01\x02\x03\x04"})
	reads(t, 1, `\# 4 aAfFDd09`, api.Data{Raw: "\xaa\xff\xdd\x09"})
	reads(t, other, `\# 0`, api.Data{})
	reads(t, other, `\# 1 00`, api.Data{Raw: "\x00"})
	reads(t, other, `\# 65535 `+strings.Repeat("9c", 65535), api.Data{Raw: strings.Repeat("\x9c", 65535)})
	reads(t, other, `\# 65535 `+strings.Repeat("9 c ", 65535), api.Data{Raw: strings.Repeat("\x9c", 65535)})
	reads(t, api.TypeOPT, `\# 2 0001`, api.Data{Raw: "\x00\x01"})
	reads(t, 2, `\# 3 016100`, api.Data{Host: "\x01a\x00"})
	reads(t, 15, `\# 4 0000C001`, api.Data{Host: api.Root}) // a pointer into these bytes
	reads(t, 16, `\# 3 000161`, api.Data{Raw: "\x00\x01a"})
	reads(t, 33, `\# 9 000100020003016100`, api.Data{N: [5]uint32{1, 2, 3}, Host: "\x01a\x00"})
	reads(t, 6, `\# 23 00C000`+strings.Repeat("00", 19)+"07", api.Data{Host: api.Root, Mail: api.Root, N: [5]uint32{0, 0, 0, 0, 7}})
	reads(t, 28, `\# 16 `+strings.Repeat("0f", 16), api.Data{Raw: strings.Repeat("\x0f", 16)})
	refuses(t, other, "", "1", "a b", `"\#" 1 00`, `\#`, `\# 1`, `\# 0 00`, `\# 1 0`, `\# 1 000`, `\# 1 0000`, `\# 1 00 0`, `\# 2 00`, `\# 1 0g`, `\# 1 +1`, `\# 1 -1`, `\# 1 _1`, `\# 1 "00"`, `\# "1" 00`, `\# 1 \0480`, `\# 2 00 "00"`,
		`\# 01 00`, `\# x 00`, `\# -1`, `\# 65536 `+strings.Repeat("00", 65536), `\# 00`, `\# +0`, `\# 99999999999999999999`, `00 \# 1`, "1.2.3.4", `\#1 00`, `\# 1 0x`, `\## 1 00`, `\# 0 ""`, `\# 1 00 ""`)
	refuses(t, 1, `\# 3 010203`, `\# 5 0102030405`, `\# 0`, `\# 4 1.2.3.4`, `1.2.3.4 \# 4 01020304`)
	refuses(t, 2, `\# 2 C000`, `\# 4 0161C000`, `\# 4 01610000`, `\# 0`, `\# 1 01`, `\# 2 0161`, `\# 1 40`, `\# 3 C00100`)
	refuses(t, 16, `\# 0`, `\# 1 01`, `\# 2 0200`, `\# 1 "00"`, `\# a`)
	refuses(t, 15, `\# 4 0000C002`, `\# 2 0000`)
}

func TestShow(t *testing.T) { // P4.6
	for _, x := range []struct {
		typed
		want string
	}{
		{typed{1, api.Data{Raw: "\x7f\x00\x0a\xff"}}, "127.0.10.255"},
		{typed{28, api.Data{Raw: "\x00\x00\x00\x00\x00\x00\x00\x00\x00\x00\x00\x00\x00\x00\x00\x01"}}, "0:0:0:0:0:0:0:1"},
		{typed{28, api.Data{Raw: "\x20\x01\x0d\xb8\x00\x0a\x00\xa0\xab\xcd\xff\xff\x10\x00\x01\x00"}}, "2001:db8:a:a0:abcd:ffff:1000:100"},
		{typed{2, api.Data{Host: api.Root}}, "."},
		{typed{5, api.Data{Host: "\x01@\x03a.B\x01\x00\x00"}}, `\@.a\.B.\000.`},
		{typed{12, api.Data{Host: "\x01a\x00"}}, "a."},
		{typed{15, api.Data{N: [5]uint32{65535}, Host: "\x01a\x00"}}, "65535 a."},
		{typed{33, api.Data{N: [5]uint32{0, 10, 443}, Host: "\x01A\x00"}}, "0 10 443 A."},
		{typed{6, api.Data{Host: "\x01a\x00", Mail: "\x01b\x00", N: [5]uint32{0, 1, 22, 1<<32 - 1, 5}}}, "a. b. 0 1 22 4294967295 5"},
		{typed{16, api.Data{Raw: "\x00"}}, `""`},
		{typed{16, api.Data{Raw: "\x03a\"b"}}, `"a\"b"`},
		{typed{16, api.Data{Raw: "\x05 .;@\\\x00\x02\x00\xff"}}, `" .;@\\" "" "\000\255"`},
		{typed{other, api.Data{}}, `\# 0`},
		{typed{other, api.Data{Raw: "\x00\x9a\xbc\xff"}}, `\# 4 009abcff`},
		{typed{api.TypeOPT, api.Data{Raw: "\x01"}}, `\# 1 01`},
	} {
		if s, e := Show(x.t, x.d); s != x.want || e != api.OK {
			t.Errorf("Show(%d, %v) = %s, %v", x.t, x.d, s, e)
		}
	}
	for _, x := range bad() {
		if s, e := Show(x.t, x.d); s != "" || e != api.ErrData {
			t.Errorf("Show(%d, %.40q) = %.40q, %v", x.t, x.d.Raw, s, e)
		}
	}
}

func TestReadOfShow(t *testing.T) { // P4.7
	for _, x := range good() {
		told(t, x)
	}
}

func TestEveryTypeAsAnyData(t *testing.T) { // P4.5, P4.7
	for _, x := range good() {
		s, _ := Show(other, api.Data{Raw: wire(t, x)})
		if d, e := Read(x.t, cut(t, s), origin); d != x.d || e != api.OK {
			t.Errorf("Read(%d, %.80s) = %.40q, %v", x.t, s, d.Raw, e)
		}
	}
}

// wire are the bytes of data, as the chapter's table says them, names without pointers.
func wire(t *testing.T, x typed) string {
	t.Helper()
	s := x.d.Raw
	for _, k := range known {
		if k.t != x.t {
			continue
		}
		for i := range k.numbers {
			v := x.d.N[i]
			if k.bits == 32 {
				s += string([]byte{byte(v >> 24), byte(v >> 16)})
			}
			s += string([]byte{byte(v >> 8), byte(v)})
		}
		if k.mail {
			return string(x.d.Host+x.d.Mail) + s
		}
		s += string(x.d.Host)
	}
	return s
}

// FuzzRead reads any words: what it answers may be, and is told again by bytes and by words.
func FuzzRead(f *testing.F) {
	for i, s := range []string{"1.2.3.4", "1:2::", "a", "a b 1 2 3 4 5", `\# 4 01020304`, "1 2 3 a", `a\.b`, "5 @"} {
		f.Add(uint16(i), s, uint8(0))
	}
	f.Fuzz(func(t *testing.T, kind uint16, text string, quoted uint8) {
		var l []api.Word
		for i, s := range strings.Split(text, " ") {
			l = append(l, api.Word{Text: s, Quoted: quoted>>(i%8)&1 == 1})
		}
		for _, n := range []uint16{kind, known[int(kind)%len(known)].t} {
			d, e := Read(n, l, origin)
			if e != api.OK {
				if e != api.ErrWords || d != (api.Data{}) {
					t.Errorf("Read(%d, %v) = %v, %v", n, l, d, e)
				}
				continue
			}
			told(t, typed{n, d})
		}
		if n, ok := TypeOf(text); ok {
			if again, _ := TypeOf(TypeText(n)); again != n || !strings.HasSuffix(text, strconv.Itoa(int(n))) && len(text) > 5 {
				t.Errorf("TypeOf(%q) = %d", text, n)
			}
		}
	})
}
