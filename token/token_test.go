package token

import (
	"fmt"
	"slices"
	"strings"
	"testing"

	"hearsay/api"
	"hearsay/name"
)

// bare and quoted are words at a place.
func bare(line, col int, text string) api.Word {
	return api.Word{Text: text, Line: line, Col: col}
}

func quoted(line, col int, text string) api.Word {
	return api.Word{Text: text, Quoted: true, Line: line, Col: col}
}

// full is an entry whose line begins with no blank, blank one whose line begins with one.
func full(line int, words ...api.Word) api.Entry { return api.Entry{Line: line, Words: words} }

func blank(line int, words ...api.Word) api.Entry {
	return api.Entry{Blank: true, Line: line, Words: words}
}

// same tells whether two lists are of the same entries.
func same(a, b []api.Entry) bool {
	return slices.EqualFunc(a, b, func(x, y api.Entry) bool {
		return x.Blank == y.Blank && x.Line == y.Line && slices.Equal(x.Words, y.Words)
	})
}

// brief tells entries, not all of them if they are many.
func brief(l []api.Entry) string {
	s := fmt.Sprint(l)
	return s[:min(len(s), 400)]
}

// read are the entries of a text in which nothing is wrong.
func read(t *testing.T, text string) []api.Entry {
	t.Helper()
	l, s, e := Entries(text)
	if e != api.OK || s != (api.Spot{}) {
		t.Fatalf("Entries(%.40q) = %s, %v, %v", text, brief(l), s, e)
	}
	return l
}

// tells asks for the entries of a text.
func tells(t *testing.T, text string, want ...api.Entry) {
	t.Helper()
	if l, s, e := Entries(text); !same(l, want) || s != (api.Spot{}) || e != api.OK {
		t.Errorf("Entries(%.40q) = %s, %v, %v, not %s", text, brief(l), s, e, brief(want))
	}
}

// refuses asks for the error of a text.
func refuses(t *testing.T, text string, want api.Errno, line, col int) {
	t.Helper()
	if l, s, e := Entries(text); e != want || s != (api.Spot{Line: line, Col: col}) || len(l) != 0 {
		t.Errorf("Entries(%.40q) = %s, %v, %v, not %v at %d, %d", text, brief(l), s, e, want, line, col)
	}
}

func TestBareWords(t *testing.T) { // P8.1
	tells(t, "a", full(1, bare(1, 1, "a")))
	tells(t, "www A 10.0.0.1", full(1, bare(1, 1, "www"), bare(1, 5, "A"), bare(1, 7, "10.0.0.1")))
	tells(t, "@ $TTL \\# *", full(1, bare(1, 1, "@"), bare(1, 3, "$TTL"), bare(1, 8, "\\#"), bare(1, 11, "*")))
	tells(t, "\xc3\xa4 \xff\x00 b", full(1, bare(1, 1, "\xc3\xa4"), bare(1, 4, "\xff\x00"), bare(1, 7, "b")))
	tells(t, "a;b", full(1, bare(1, 1, "a")))
	tells(t, "a(b)c", full(1, bare(1, 1, "a"), bare(1, 3, "b"), bare(1, 5, "c")))
	tells(t, "a\tb\rc d", full(1, bare(1, 1, "a"), bare(1, 3, "b"), bare(1, 5, "c"), bare(1, 7, "d")))
	tells(t, "a\nb", full(1, bare(1, 1, "a")), full(2, bare(2, 1, "b")))
}

func TestBackslashesInBareWords(t *testing.T) { // P8.1
	for _, c := range []string{" ", "\t", "\r", ";", "(", ")", "\"", "\\", "a", ".", "0", "\x00", "\xff"} {
		tells(t, "\\"+c, full(1, bare(1, 1, "\\"+c)))
		tells(t, "a\\"+c+"b c", full(1, bare(1, 1, "a\\"+c+"b"), bare(1, 6, "c")))
	}
	tells(t, "\\", full(1, bare(1, 1, "\\")))
	tells(t, "a\\", full(1, bare(1, 1, "a\\")))
	tells(t, "a\\\nb", full(1, bare(1, 1, "a\\")), full(2, bare(2, 1, "b")))
	tells(t, "\\\n\\", full(1, bare(1, 1, "\\")), full(2, bare(2, 1, "\\")))
	tells(t, "(a\\\nb)", full(1, bare(1, 2, "a\\"), bare(2, 1, "b")))
	tells(t, "a\\\\ b", full(1, bare(1, 1, "a\\\\"), bare(1, 5, "b")))
	tells(t, "a\\\\;b", full(1, bare(1, 1, "a\\\\")))
	tells(t, "a\\\\\\;b", full(1, bare(1, 1, "a\\\\\\;b")))
	tells(t, "a\\\r\nb", full(1, bare(1, 1, "a\\\r")), full(2, bare(2, 1, "b")))
	tells(t, "\\065\\256\\1 \\", full(1, bare(1, 1, "\\065\\256\\1"), bare(1, 12, "\\")))
}

func TestQuotedWords(t *testing.T) { // P8.1
	tells(t, `""`, full(1, quoted(1, 1, "")))
	tells(t, ` "" ""`, blank(1, quoted(1, 2, ""), quoted(1, 5, "")))
	tells(t, `"a b;c(d)e"`, full(1, quoted(1, 1, "a b;c(d)e")))
	tells(t, "\"\t\r\x00\xff\"", full(1, quoted(1, 1, "\t\r\x00\xff")))
	tells(t, `"a\"b"`, full(1, quoted(1, 1, `a\"b`)))
	tells(t, `"a\\"b`, full(1, quoted(1, 1, `a\\`), bare(1, 6, "b")))
	tells(t, `"\\\""`, full(1, quoted(1, 1, `\\\"`)))
	tells(t, `"\a\065\256\ "`, full(1, quoted(1, 1, `\a\065\256\ `)))
	tells(t, `a"b c"d\ e\;`, full(1, bare(1, 1, "a"), quoted(1, 2, "b c"), bare(1, 7, `d\ e\;`)))
	tells(t, `"a""b"c"d"`, full(1, quoted(1, 1, "a"), quoted(1, 4, "b"), bare(1, 7, "c"), quoted(1, 8, "d")))
	tells(t, `"a"(";"):`, full(1, quoted(1, 1, "a"), quoted(1, 5, ";"), bare(1, 9, ":")))
	tells(t, `"a";"`, full(1, quoted(1, 1, "a")))
	tells(t, "\"a\"\n\"b\"", full(1, quoted(1, 1, "a")), full(2, quoted(2, 1, "b")))
}

func TestEachByte(t *testing.T) { // P8.1
	for i := range 256 {
		c := string([]byte{byte(i)})
		switch c {
		case " ", "\t", "\r":
			tells(t, c)
			tells(t, "a"+c+"b", full(1, bare(1, 1, "a"), bare(1, 3, "b")))
			tells(t, c+"b", blank(1, bare(1, 2, "b")))
		case "\n":
			tells(t, c)
			tells(t, "a"+c+"b", full(1, bare(1, 1, "a")), full(2, bare(2, 1, "b")))
			tells(t, c+"b", full(2, bare(2, 1, "b")))
		case ";":
			tells(t, c)
			tells(t, "a"+c+"b", full(1, bare(1, 1, "a")))
			tells(t, c+"b")
		case "(":
			refuses(t, c, api.ErrParen, 1, 1)
			refuses(t, "a"+c+"b", api.ErrParen, 1, 2)
		case ")":
			refuses(t, c, api.ErrParen, 1, 1)
			refuses(t, "a"+c+"b", api.ErrParen, 1, 2)
		case "\"":
			refuses(t, c, api.ErrQuote, 1, 1)
			refuses(t, "a"+c+"b", api.ErrQuote, 1, 2)
		default:
			tells(t, c, full(1, bare(1, 1, c)))
			tells(t, "a"+c+"b", full(1, bare(1, 1, "a"+c+"b")))
			tells(t, c+"b", full(1, bare(1, 1, c+"b")))
		}
	}
}

func TestRemarks(t *testing.T) { // P8.1
	tells(t, ";")
	tells(t, " ; x")
	tells(t, "; ) ( \" \\\na", full(2, bare(2, 1, "a")))
	tells(t, "a ;\\\nb", full(1, bare(1, 1, "a")), full(2, bare(2, 1, "b")))
	tells(t, "a ; b ; c\n;d\n e;", full(1, bare(1, 1, "a")), blank(3, bare(3, 2, "e")))
	tells(t, "(a;)\nb)c", full(1, bare(1, 2, "a"), bare(2, 1, "b"), bare(2, 3, "c")))
	refuses(t, "(a;)", api.ErrParen, 1, 1)
	refuses(t, ";(\n)", api.ErrParen, 2, 1)
}

func TestEntriesOverLines(t *testing.T) { // P8.1
	tells(t, "www A 10.0.0.1 ; x\n MX 10 (\n m ) ; y\n",
		full(1, bare(1, 1, "www"), bare(1, 5, "A"), bare(1, 7, "10.0.0.1")),
		blank(2, bare(2, 2, "MX"), bare(2, 5, "10"), bare(3, 2, "m")))
	tells(t, "a (\n\n b\n) c\nd", full(1, bare(1, 1, "a"), bare(3, 2, "b"), bare(4, 3, "c")), full(5, bare(5, 1, "d")))
	tells(t, "(\n)")
	tells(t, " (\n) (\n) ")
	tells(t, "((\n)\na)\nb", full(1, bare(3, 1, "a")), full(4, bare(4, 1, "b")))
	tells(t, "(\n a)", full(1, bare(2, 2, "a")))
	tells(t, " (\na)", blank(1, bare(2, 1, "a")))
	tells(t, "(\n) a", full(1, bare(2, 3, "a")))
	tells(t, " (\n)\na", full(3, bare(3, 1, "a")))
	tells(t, "(\n)\n a", blank(3, bare(3, 2, "a")))
	tells(t, "(a)(\nb)\n(c\n)", full(1, bare(1, 2, "a"), bare(2, 1, "b")), full(3, bare(3, 2, "c")))
	tells(t, "a ( \"b\"\n \"c\" )", full(1, bare(1, 1, "a"), quoted(1, 5, "b"), quoted(2, 2, "c")))
}

func TestEntriesWithoutWords(t *testing.T) { // P8.1
	for _, text := range []string{"", "\n", "\n\n", "\r\n", " ", " \t\r", " \n ", "()", "(\n)", "()\n(())", " ; x", ";\n;", "( ; )\n)"} {
		tells(t, text)
	}
	tells(t, "\n\n a\n\n\r\nb\n\n", blank(3, bare(3, 2, "a")), full(6, bare(6, 1, "b")))
}

func TestBlankAndLine(t *testing.T) { // P8.1
	for _, x := range []struct {
		front string
		blank bool
	}{{"", false}, {" ", true}, {"\t", true}, {"\r", true}, {"  ", true}, {"()", false}, {" ()", true}, {"() ", false}} {
		for _, ahead := range []string{"", "b\n", " b\n", "\n\n", " \n", ";\n", "(\n )\n"} {
			line := 1 + strings.Count(ahead, "\n")
			l := read(t, ahead+x.front+"a\n")
			if len(l) == 0 || l[len(l)-1].Blank != x.blank || l[len(l)-1].Line != line {
				t.Errorf("Entries(%q) = %v", ahead+x.front+"a\n", l)
			}
		}
	}
}

func TestQuotesThatAreNotClosed(t *testing.T) { // P8.1
	for _, rest := range []string{"", "b", `b\"`, `\"`, `\`, "b\n\"", "\n\"", "\\\n\"", "\\\\\\\"", " ; x", ")", "\r\n\""} {
		refuses(t, `a "`+rest, api.ErrQuote, 1, 3)
		refuses(t, `"x""`+rest, api.ErrQuote, 1, 4)
		refuses(t, "a\n (\n\"\" b\""+rest, api.ErrQuote, 3, 5)
		refuses(t, "( ) (\n(\""+rest, api.ErrQuote, 2, 2)
	}
	refuses(t, "\"a\n)", api.ErrQuote, 1, 1)
	refuses(t, "a\n\"b\n\"c", api.ErrQuote, 2, 1)
	tells(t, "; \"\n\\\"", full(2, bare(2, 1, "\\\"")))
}

func TestParenthesesThatDoNotFit(t *testing.T) { // P8.1
	refuses(t, "a ) (", api.ErrParen, 1, 3)
	refuses(t, "a (\n ( )", api.ErrParen, 1, 3)
	refuses(t, "(", api.ErrParen, 1, 1)
	refuses(t, ")", api.ErrParen, 1, 1)
	refuses(t, "())", api.ErrParen, 1, 3)
	refuses(t, "(\n)\n a\n b)\n)", api.ErrParen, 4, 3)
	refuses(t, "() (", api.ErrParen, 1, 4)
	refuses(t, "((", api.ErrParen, 1, 1)
	refuses(t, "(\n()\n(", api.ErrParen, 1, 1)
	refuses(t, "(())\n (a (b)\n(c)", api.ErrParen, 2, 2)
}

func TestTheFirstErrorIsTold(t *testing.T) { // P8.1
	refuses(t, ") \"", api.ErrParen, 1, 1)
	refuses(t, "\" )", api.ErrQuote, 1, 1)
	refuses(t, "(\n\"", api.ErrQuote, 2, 1)
	refuses(t, "a\n) (", api.ErrParen, 2, 1)
	refuses(t, "() )\n\"", api.ErrParen, 1, 4)
	refuses(t, "((\n)) (\n)))", api.ErrParen, 3, 2)
}

func TestLongTexts(t *testing.T) { // P8.1
	for _, part := range []string{"a", " ", "\n", ";", "\\", "a ", "a\n", "\"\"", "()", "\x00", "(a\n)\n"} {
		text := strings.Repeat(part, api.MaxText/len(part)+1)[:api.MaxText]
		if strings.Contains(part, "(") && api.MaxText%len(part) != 0 {
			text = strings.Repeat(part, api.MaxText/len(part)) + strings.Repeat(" ", api.MaxText%len(part))
		}
		read(t, text)
		refuses(t, text+"\n", api.ErrLong, 0, 0)
	}
	most := strings.Repeat("a", api.MaxText)
	tells(t, most, full(1, bare(1, 1, most)))
	lines := read(t, strings.Repeat("a\n", api.MaxText/2))
	if len(lines) != api.MaxText/2 || !same(lines[len(lines)-1:], []api.Entry{full(api.MaxText/2, bare(api.MaxText/2, 1, "a"))}) {
		t.Errorf("of %d lines %d are told", api.MaxText/2, len(lines))
	}
	for _, text := range []string{") \"", "\"", "(", ")"} {
		refuses(t, text+strings.Repeat(" ", api.MaxText+1-len(text)), api.ErrLong, 0, 0)
	}
	refuses(t, strings.Repeat("a", 1<<22), api.ErrLong, 0, 0)
}

func TestManyParentheses(t *testing.T) { // P8.1
	const deep = api.MaxText / 4
	open, closed := strings.Repeat("(", deep), strings.Repeat(")", deep)
	tells(t, open+"a"+closed+"b\nc", full(1, bare(1, deep+1, "a"), bare(1, 2*deep+2, "b")), full(2, bare(2, 1, "c")))
	tells(t, open+"\n"+closed)
	refuses(t, "a\n "+open+closed[1:], api.ErrParen, 2, 2)
	refuses(t, "a\n "+open+closed+")", api.ErrParen, 2, 2+2*deep)
}

func TestValue(t *testing.T) { // P8.2
	for _, x := range []struct {
		text, bytes string
		e           api.Errno
	}{
		{"", "", api.OK}, {"a", "a", api.OK}, {`a\.b\065`, "a.bA", api.OK}, {`\000\255`, "\x00\xff", api.OK}, {`\\\"\;\ `, `\"; `, api.OK},
		{"a\xff\n\x00 b", "a\xff\n\x00 b", api.OK}, {`\0651`, "A1", api.OK}, {`\a`, "a", api.OK},
		{`\`, "", api.ErrEscape}, {`a\`, "", api.ErrEscape}, {`\25`, "", api.ErrEscape}, {`\256`, "", api.ErrEscape}, {`\1a1`, "", api.ErrEscape},
		{`abc\999`, "", api.ErrEscape}, {`a\\\`, "", api.ErrEscape},
	} {
		for _, w := range []api.Word{bare(1, 1, x.text), quoted(3, 4, x.text), {Text: x.text, Line: -1, Col: -1}} {
			if b, e := Value(w); b != x.bytes || e != x.e {
				t.Errorf("Value(%q) = %q, %v", x.text, b, e)
			}
		}
	}
}

func TestValueOfWordsThatAreRead(t *testing.T) { // P8.2, P7
	every := make([]byte, 256)
	for i := range every {
		every[i] = byte(i)
	}
	for _, bytes := range []string{"a b", `"`, `\`, ";()@$.", "a\nb", string(every)} {
		l := read(t, name.Escape(bytes, false)+` "`+name.Escape(bytes, true)+`"`)
		if len(l) != 1 || len(l[0].Words) != 2 || l[0].Words[0].Quoted || !l[0].Words[1].Quoted {
			t.Fatalf("two words of %q are %v", bytes, l)
		}
		for _, w := range l[0].Words {
			if b, e := Value(w); b != bytes || e != api.OK {
				t.Errorf("Value(%v) = %q, %v", w, b, e)
			}
		}
	}
}

func TestEntriesInNewMemory(t *testing.T) { // P8.1, R2, R3
	const text = "a b c\nd\ne \"f\"\ng ( h\ni ) j k\nl\nm n\no\np\n"
	want, l := read(t, text), read(t, text)
	for i := range l {
		words := l[i].Words
		for k := range cap(words) {
			words[:cap(words)][k] = bare(7, 7, "spoilt")
		}
		for k := i + 1; k < len(l); k++ {
			if !slices.Equal(l[k].Words, want[k].Words) {
				t.Errorf("the words of the entries %d and %d share memory", i, k)
			}
		}
	}
	for i := range cap(l) {
		l[:cap(l)][i] = api.Entry{}
	}
	if !same(read(t, text), want) {
		t.Error("what was handed out was written to, and is told")
	}
	Entries("\"")
	Entries("((")
	if !same(read(t, text), want) {
		t.Error("what was refused left something behind")
	}
}
