// Package name is layer 1: names, their texts, their order. See shared/doc/01-name.md.
package name

import (
	"cmp"
	"strings"

	"hearsay/api"
)

// Check tells whether it is a name.
func Check(n api.Name) api.Errno {
	if _, ok := marksOf(n); !ok {
		return api.ErrName
	}
	return api.OK
}

// Of is the name with these labels.
func Of(labels ...string) (api.Name, api.Errno) {
	var r row
	for _, l := range labels {
		if e := r.add(l); e != api.OK {
			return "", e
		}
	}
	return r.name()
}

// Labels are its labels.
func Labels(n api.Name) []string {
	m, _ := marksOf(n)
	var labels []string
	for i := range m.count {
		labels = append(labels, m.label(n, i))
	}
	return labels
}

// Count is how many labels it has.
func Count(n api.Name) int {
	m, _ := marksOf(n)
	return m.count
}

// Fold is it in small letters.
func Fold(n api.Name) api.Name {
	return api.Name(each(string(n), func(out []byte, c byte) []byte {
		return append(out, small(c))
	}))
}

// Under tells whether it is at or under another one.
func Under(n, zone api.Name) bool {
	if Check(zone) != api.OK {
		return false
	}
	back, ok := Last(n, Count(zone))
	return ok && Cmp(back, zone) == 0
}

// Parent is it without its first label.
func Parent(n api.Name) (api.Name, bool) { return Last(n, Count(n)-1) }

// Last is the name of its last labels.
func Last(n api.Name, k int) (api.Name, bool) {
	m, ok := marksOf(n)
	if !ok || k < 0 || k > m.count {
		return "", false
	}
	return n[m.at[m.count-k]:], true
}

// Join is one's labels, and another one's behind.
func Join(front, back api.Name) (api.Name, api.Errno) {
	if Check(front) != api.OK || Check(back) != api.OK {
		return "", api.ErrName
	}
	labels := front[:len(front)-1]
	if len(labels)+len(back) > api.MaxName {
		return "", api.ErrLong
	}
	return labels + back, api.OK
}

// Wild is the label * and its labels.
func Wild(n api.Name) (api.Name, api.Errno) { return Join("\x01*\x00", n) }

// Cmp is the order of names.
func Cmp(a, b api.Name) int {
	m, aIs := marksOf(a)
	o, bIs := marksOf(b)
	switch {
	case !aIs && !bIs:
		return strings.Compare(string(a), string(b))
	case !aIs:
		return 1
	case !bIs:
		return -1
	}
	sign := cmp.Compare(m.count, o.count)
labels:
	for i := range min(m.count, o.count) {
		p, q := m.label(a, m.count-1-i), o.label(b, o.count-1-i)
		for k := range min(len(p), len(q)) {
			if c, d := small(p[k]), small(q[k]); c != d {
				sign = cmp.Compare(c, d)
				break labels
			}
		}
		if len(p) != len(q) {
			sign = cmp.Compare(len(p), len(q))
			break labels
		}
	}
	return sign
}

// small is a byte in small letters.
func small(c byte) byte {
	if 'A' <= c && c <= 'Z' {
		return c + 'a' - 'A'
	}
	return c
}

// each is a text with what becomes of each of its bytes.
func each(s string, become func(out []byte, c byte) []byte) string {
	out := make([]byte, 0, len(s))
	for i := range len(s) {
		out = become(out, s[i])
	}
	return string(out)
}
