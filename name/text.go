package name

import (
	"strconv"

	"hearsay/api"
)

// Bytes are a text's bytes.
func Bytes(text string) (string, api.Errno) {
	out := make([]byte, 0, len(text))
	for i := 0; i < len(text); i++ {
		c := text[i]
		if c == '\\' {
			taken, size := escaped(text[i+1:])
			if size == 0 {
				return "", api.ErrEscape
			}
			c = taken
			i += size
		}
		out = append(out, c)
	}
	return string(out), api.OK
}

// escaped is the byte that is told behind a backslash, and by how many bytes of the text; by none, if it is told wrongly.
func escaped(text string) (byte, int) {
	if text == "" {
		return 0, 0
	}
	if text[0] < '0' || '9' < text[0] {
		return text[0], 1
	}
	if len(text) < 3 {
		return 0, 0
	}
	number, err := strconv.ParseUint(text[:3], 10, 8)
	if err != nil {
		return 0, 0
	}
	return byte(number), 3
}

// Escape is a text of these bytes.
func Escape(s string, quoted bool) string {
	return each(s, func(out []byte, c byte) []byte {
		switch c {
		case '.', ';', '(', ')', '@', '$':
			if quoted {
				return append(out, c)
			}
			fallthrough
		case '"', '\\':
			return append(out, '\\', c)
		}
		if '!' <= c && c <= '~' || c == ' ' && quoted {
			return append(out, c)
		}
		return append(out, '\\', '0'+c/100, '0'+c/10%10, '0'+c%10)
	})
}

// Parse is the name that a text tells.
func Parse(text string, origin api.Name) (api.Name, api.Errno) {
	if Check(origin) != api.OK {
		return "", api.ErrName
	}
	if text == "." {
		return api.Root, api.OK
	}
	var r row
	whole, e := r.addText(text)
	if e != api.OK {
		return "", e
	}
	if !whole {
		r.addName(origin)
	}
	return r.name()
}

// cut is a text up to its first dot that is not behind a backslash, what is left behind that dot, and whether there is one.
func cut(text string) (piece, left string, dotted bool) {
	for i := 0; i < len(text); i++ {
		switch text[i] {
		case '\\':
			i++
		case '.':
			return text[:i], text[i+1:], true
		}
	}
	return text, "", false
}

// Text is a name's text.
func Text(n api.Name) string {
	if n == api.Root {
		return "."
	}
	text := ""
	for _, l := range Labels(n) {
		text += Escape(l, false) + "."
	}
	return text
}
