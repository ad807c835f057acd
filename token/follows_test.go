package token

import (
	"regexp"
	"slices"
	"strings"
	"testing"

	"hearsay/api"
)

// shapes are what may stand in a text, by another way than the package's.
type shapes struct{ gap, bare, quoted *regexp.Regexp }

func newShapes() shapes {
	return shapes{
		gap:    regexp.MustCompile(`^([ \t\r]|;[^\n]*)+`),
		bare:   regexp.MustCompile(`^(\\[^\n]|[^\\ \t\r\n;()"])*\\?`),
		quoted: regexp.MustCompile(`^"(\\[^\n]|[^\\"\n])*"`),
	}
}

// spotOf is the place of the byte at in a text.
func spotOf(text string, at int) api.Spot {
	return api.Spot{Line: 1 + strings.Count(text[:at], "\n"), Col: at - strings.LastIndex(text[:at], "\n")}
}

// placed is a word that stands at a byte of a text.
func placed(text string, at int, word string) api.Word {
	s := spotOf(text, at)
	w := api.Word{Text: word, Line: s.Line, Col: s.Col}
	if word[0] == '"' {
		w.Text, w.Quoted = word[1:len(word)-1], true
	}
	return w
}

// entries are a text's entries as the chapter's words say it: cut where a line's end is that no parenthesis is open at, and the open ones kept in a list.
func (x shapes) entries(text string) ([]api.Entry, api.Spot, api.Errno) {
	var l []api.Entry
	var words []api.Word
	var open []int
	begins := 0
	end := func(at int) {
		if len(words) > 0 {
			l = append(l, api.Entry{Blank: strings.IndexByte(" \t\r", text[begins]) >= 0, Line: spotOf(text, begins).Line, Words: words})
		}
		words, begins = nil, at+1
	}
	for at := 0; at < len(text); {
		size := 1
		switch c := text[at]; c {
		case '\n':
			if len(open) == 0 {
				end(at)
			}
		case '(':
			open = append(open, at)
		case ')':
			if len(open) == 0 {
				return nil, spotOf(text, at), api.ErrParen
			}
			open = open[:len(open)-1]
		default:
			if size = len(x.gap.FindString(text[at:])); size > 0 {
				break
			}
			word := x.bare.FindString(text[at:])
			if c == '"' {
				word = x.quoted.FindString(text[at:])
			}
			if word == "" {
				return nil, spotOf(text, at), api.ErrQuote
			}
			words, size = append(words, placed(text, at, word)), len(word)
		}
		at += size
	}
	if len(open) > 0 {
		return nil, spotOf(text, open[0]), api.ErrParen
	}
	end(len(text))
	return l, api.Spot{}, api.OK
}

// holds asks about any text, and tells what of the promises does not hold.
func (x shapes) holds(t *testing.T, text string) {
	t.Helper()
	l, s, e := Entries(text)
	if len(text) <= api.MaxText {
		if k, spot, wrong := x.entries(text); !same(l, k) || s != spot || e != wrong {
			t.Errorf("Entries(%q) = %v, %v, %v, not %v, %v, %v", text, l, s, e, k, spot, wrong)
		}
	} else if len(l) != 0 || s != (api.Spot{}) || e != api.ErrLong {
		t.Errorf("Entries(%.40q) = %s, %v, %v", text, brief(l), s, e)
	}
	stand(t, text, l)
}

// stand tells where a word does not stand at its place, or places do not rise.
func stand(t *testing.T, text string, l []api.Entry) {
	t.Helper()
	lines := strings.SplitAfter(text, "\n")
	last := api.Spot{}
	for _, entry := range l {
		for _, w := range entry.Words {
			if w.Line < last.Line || w.Line == last.Line && w.Col <= last.Col || w.Line < entry.Line {
				t.Errorf("Entries(%q): the place of %v does not rise", text, w)
			}
			last = api.Spot{Line: w.Line, Col: w.Col}
			there := w.Text
			if w.Quoted {
				there = `"` + w.Text + `"`
			}
			if w.Line > len(lines) || w.Col < 1 || w.Col > len(lines[w.Line-1]) || !strings.HasPrefix(lines[w.Line-1][w.Col-1:], there) {
				t.Errorf("Entries(%q): %v does not stand at its place", text, w)
			}
		}
	}
}

// short are all texts of at most this many of these bytes.
func short(bytes string, most int) []string {
	l := []string{""}
	for from := 0; most > 0; most-- {
		till := len(l)
		for _, s := range l[from:till] {
			for _, c := range []byte(bytes) {
				l = append(l, s+string([]byte{c}))
			}
		}
		from = till
	}
	return l
}

func TestShortTexts(t *testing.T) { // P8.1, P8.3
	x := newShapes()
	for _, s := range short("a\\\"(); \n", 5) {
		x.holds(t, s)
	}
	for _, s := range short("a()\n", 7) {
		x.holds(t, s)
	}
	for _, s := range short("a\\\"\n", 7) {
		x.holds(t, s)
	}
	for _, s := range short("\r\t\x00\xff;", 4) {
		x.holds(t, s)
	}
}

// plain are words without their places.
func plain(l []api.Entry) []api.Word {
	var words []api.Word
	for _, entry := range l {
		for _, w := range entry.Words {
			words = append(words, api.Word{Text: w.Text, Quoted: w.Quoted})
		}
	}
	return words
}

func TestWhateverStandsBetweenWords(t *testing.T) { // P8.4
	words := []string{"a", `"b c"`, `d\;`, `\(`, `""`, `"\"("`, "\\\"", "e\\\\", "f"}
	var want []api.Word
	for _, w := range words {
		want = append(want, placed(w, 0, w))
	}
	for i := range want {
		want[i].Line, want[i].Col = 0, 0
	}
	gaps := []string{" ", "\t", "\r", "  \t\r ", "()", "(())", " ( ) ", "(\n)", "( ; ) \" ( \\\n\n )", "(;\n;\n)"}
	inner := append([]string{"\n", "\r\n", "\n\n", ";\n", "; ) \" (\n", " ; x\n ; y\n\t"}, gaps...)
	ask := func(text string) {
		t.Helper()
		if l := read(t, text); len(l) != 1 || !slices.Equal(plain(l), want) {
			t.Errorf("Entries(%q) = %v", text, l)
		}
	}
	for _, a := range gaps {
		for _, b := range gaps {
			ask(a + strings.Join(words, b) + a + ";")
			ask(b + strings.Join(words[:4], a) + b + strings.Join(words[4:], a) + " ; x\n")
		}
	}
	for _, a := range inner {
		ask("(" + strings.Join(words, a) + ")")
		for from := range words {
			for till := from + 1; till < len(words); till++ {
				ask(strings.Join(words[:from], " ") + " (" + a + strings.Join(words[from:till], a) + a + ") " + strings.Join(words[till:], "()"))
			}
		}
	}
	if l := read(t, `a"b"c"d"(e)f`); len(l) != 1 || !slices.Equal(plain(l), plain(read(t, `a "b" c "d" e f`))) {
		t.Errorf("words right behind one another are %v", l)
	}
}

// moved are entries of which each line is some lines further on.
func moved(l []api.Entry, lines int) []api.Entry {
	var out []api.Entry
	for _, entry := range l {
		entry.Line += lines
		entry.Words = slices.Clone(entry.Words)
		for i := range entry.Words {
			entry.Words[i].Line += lines
		}
		out = append(out, entry)
	}
	return out
}

func TestTextsOneBehindTheOther(t *testing.T) { // P8.5
	texts := append(short("a\\\"(); \n", 2), "a ( b\n ) c", " a\n\n b \"c\"\n", "( ; )\n) a\\", "a ; b", "a\\\\", "(a)\n)", "\n(\n", "a\n\"b", " \n a")
	for _, a := range texts {
		ahead, _, e := Entries(a)
		if e != api.OK {
			continue
		}
		lines := 1 + strings.Count(a, "\n")
		for _, b := range texts {
			behind, at, wrong := Entries(b)
			want := append(slices.Clone(ahead), moved(behind, lines)...)
			if wrong != api.OK {
				want = nil
				at.Line += lines
			}
			if l, s, e := Entries(a + "\n" + b); !same(l, want) || s != at || e != wrong {
				t.Errorf("Entries(%q) = %v, %v, %v, not %v, %v, %v", a+"\n"+b, l, s, e, want, at, wrong)
			}
		}
	}
}

// FuzzEntries asks about any text.
func FuzzEntries(f *testing.F) {
	f.Add("www A 10.0.0.1 ; x\n MX 10 (\n m ) ; y\n")
	f.Add("a\"b c\"d\\ e\\;")
	f.Add("( ) (\n(\"x")
	x := newShapes()
	f.Fuzz(func(t *testing.T, s string) {
		x.holds(t, s)
		for _, c := range []byte(s) {
			Value(api.Word{Text: s[strings.IndexByte(s, c):]})
		}
	})
}
