package token

import "hearsay/api"

// lineEnd is the byte that ends a line.
const lineEnd = '\n'

// lexer goes through a text from its front to its back.
type lexer struct {
	text    string
	at      int      // the byte that comes next
	line    int      // its line
	lineAt  int      // the first byte of that line
	open    int      // how many parentheses are open
	first   api.Spot // the place of the first one of these
	entry   api.Entry
	entries []api.Entry
}

// read gathers the entries of the text, or tells what is wrong with it, and where.
func (l *lexer) read() (api.Spot, api.Errno) {
	start := 0
	l.beginLine()
	l.beginEntry()
between:
	start = l.at
	switch c := l.next(); {
	case l.atEnd():
		goto end
	case c == ')' && l.open == 0:
		return l.spot(start), api.ErrParen
	case c == ';':
		goto remark
	case c == '"':
		l.at++
		goto quoted
	case !endsBare(c):
		goto bare
	}
	l.pass()
	goto between
bare:
	if endsBare(l.next()) {
		l.put(start, api.Word{Text: l.text[start:l.at]})
		goto between
	}
	l.take()
	goto bare
quoted:
	switch l.next() {
	case lineEnd:
		return l.spot(start), api.ErrQuote
	case '"':
		l.put(start, api.Word{Text: l.text[start+1 : l.at], Quoted: true})
		l.at++
		goto between
	}
	l.take()
	goto quoted
remark:
	if l.next() == lineEnd {
		goto between
	}
	l.at++
	goto remark
end:
	if l.open > 0 {
		return l.first, api.ErrParen
	}
	l.endEntry()
	return api.Spot{}, api.OK
}

// atEnd tells whether no byte is left.
func (l *lexer) atEnd() bool { return l.at == len(l.text) }

// next is the byte that comes next. At the text's end it is a line's end: words and remarks end, or are not closed, at both in the same way.
func (l *lexer) next() byte {
	if l.atEnd() {
		return lineEnd
	}
	return l.text[l.at]
}

// take goes over a word's byte, and over the one that it takes along, if it is a backslash.
func (l *lexer) take() {
	takes := l.next() == '\\'
	l.at++
	if takes && l.next() != lineEnd {
		l.at++
	}
}

// spot is the place of a byte of the line that is read.
func (l *lexer) spot(at int) api.Spot {
	return api.Spot{Line: l.line, Col: 1 + at - l.lineAt}
}

// pass goes over a blank, a line's end or a parenthesis.
func (l *lexer) pass() {
	c := l.next()
	if c == '(' && l.open == 0 {
		l.first = l.spot(l.at)
	}
	l.at++
	switch c {
	case lineEnd:
		l.endLine()
	case '(':
		l.open++
	case ')':
		l.open--
	}
}

// put gives the entry a word that begins at this byte.
func (l *lexer) put(start int, w api.Word) {
	s := l.spot(start)
	w.Line, w.Col = s.Line, s.Col
	l.entry.Words = append(l.entry.Words, w)
}

// beginLine counts the line that begins with the next byte.
func (l *lexer) beginLine() {
	l.line++
	l.lineAt = l.at
}

// endLine goes on to the next line, and to the next entry, unless a parenthesis is open.
func (l *lexer) endLine() {
	l.beginLine()
	if l.open == 0 {
		l.endEntry()
		l.beginEntry()
	}
}

// beginEntry begins an entry with the line that begins with the next byte. Its words are a new list, so that no two entries share one.
func (l *lexer) beginEntry() {
	l.entry = api.Entry{Line: l.line, Blank: isBlank(l.next())}
}

// endEntry keeps the entry, if it has words.
func (l *lexer) endEntry() {
	if len(l.entry.Words) > 0 {
		l.entries = append(l.entries, l.entry)
	}
}

// isBlank tells whether a byte is a blank.
func isBlank(c byte) bool { return c == ' ' || c == '\t' || c == '\r' }

// endsBare tells whether a bare word ends ahead of a byte.
func endsBare(c byte) bool {
	switch c {
	case lineEnd, ';', '(', ')', '"':
		return true
	}
	return isBlank(c)
}
