package rdata

import (
	"strconv"
	"strings"

	"hearsay/api"
	"hearsay/name"
	"hearsay/octet"
)

// hexDigits are the digits to the base 16.
const hexDigits = "0123456789abcdef"

// Show is data as words.
func Show(t uint16, d api.Data) (string, api.Errno) {
	if e := Check(t, d); e != api.OK {
		return "", e
	}
	var words []string
	numbers := 0
	for _, p := range partsOf(t) {
		switch p {
		case four:
			words = append(words, dotted(d.Raw))
		case eight:
			words = append(words, grouped(d.Raw))
		case texts:
			words = append(words, quoted(d.Raw)...)
		case octets:
			words = append(words, counted(d.Raw)...)
		case host, bare:
			words = append(words, name.Text(d.Host))
		case mail:
			words = append(words, name.Text(d.Mail))
		case narrow, wide:
			words = append(words, strconv.FormatUint(uint64(d.N[numbers]), 10))
			numbers++
		}
	}
	return strings.Join(words, " "), api.OK
}

// dotted is each byte as a number, with dots between.
func dotted(raw string) string {
	var l []string
	for _, c := range []byte(raw) {
		l = append(l, strconv.Itoa(int(c)))
	}
	return strings.Join(l, ".")
}

// grouped is each two bytes as a number to the base 16, with : between.
func grouped(raw string) string {
	var l []string
	b := []byte(raw)
	for at := 0; at < len(b); at += 2 {
		group, _, _ := octet.Take[uint16](b, at)
		l = append(l, strconv.FormatUint(uint64(group), 16))
	}
	return strings.Join(l, ":")
}

// quoted are the short texts as words.
func quoted(raw string) []string {
	l, _ := textsOf(raw)
	for i, text := range l {
		l[i] = `"` + name.Escape(text, true) + `"`
	}
	return l
}

// counted is any data as words: how many bytes, and these, two digits each.
func counted(raw string) []string {
	l := []string{anyData, strconv.Itoa(len(raw))}
	if raw == "" {
		return l
	}
	digits := make([]byte, 0, 2*len(raw))
	for _, c := range []byte(raw) {
		digits = append(digits, hexDigits[c>>4], hexDigits[c&15])
	}
	return append(l, string(digits))
}
