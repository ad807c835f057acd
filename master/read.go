package master

import (
	"strconv"
	"strings"

	"hearsay/api"
	"hearsay/name"
	"hearsay/rdata"
)

// fault is what is wrong with a text, and where.
type fault struct {
	errno api.Errno
	spot  api.Spot
}

// reader reads entries from the front to the back, and gives up by a panic with a fault.
type reader struct {
	origin  api.Name // the one that holds
	ttl     uint32   // the one that holds
	fixed   bool     // whether a $TTL told it, so that records change it no more
	records []api.Record
	first   api.Word   // the first word of the entry
	words   []api.Word // those of its words that are left
}

// giveUp ends reading at a word.
func giveUp(w api.Word, e api.Errno) {
	panic(fault{e, api.Spot{Line: w.Line, Col: w.Col}})
}

// take is the next word.
func (r *reader) take() api.Word {
	w := r.words[0]
	r.words = r.words[1:]
	return w
}

// entry reads an entry.
func (r *reader) entry(entry api.Entry) {
	r.first, r.words = entry.Words[0], entry.Words
	if !entry.Blank && strings.HasPrefix(keyword(r.first), "$") {
		r.directive()
		return
	}
	if len(r.records) == api.MaxRecords {
		giveUp(r.first, api.ErrLong)
	}
	r.records = append(r.records, r.record(entry.Blank))
}

// directive reads what holds from there on.
func (r *reader) directive() {
	kind := r.take()
	if len(r.words) != 1 {
		giveUp(kind, api.ErrDirective)
	}
	what, ok := r.take(), false
	switch keyword(kind) {
	case "$origin":
		r.origin, ok = r.name(what)
	case "$ttl":
		r.ttl, ok = number(what)
		r.fixed, ok = true, ok && r.ttl <= api.MaxTTL
	}
	if !ok {
		giveUp(kind, api.ErrDirective)
	}
}

// record reads a record.
func (r *reader) record(blank bool) api.Record {
	x := api.Record{Name: r.owner(blank), Class: api.ClassIN}
	x.TTL = r.ttlAndClass()
	if len(r.words) == 0 {
		giveUp(r.first, api.ErrType)
	}
	kind := r.take()
	t, ok := rdata.TypeOf(kind.Text)
	if !ok || kind.Quoted {
		giveUp(kind, api.ErrType)
	}
	d, e := rdata.Read(t, r.words, r.origin)
	if e != api.OK {
		giveUp(kind, api.ErrWords)
	}
	x.Type, x.Data = t, rdata.Fold(t, d)
	return x
}

// owner reads whose record it is: that of the last record ahead, if the entry is blank.
func (r *reader) owner(blank bool) api.Name {
	if !blank {
		n, ok := r.name(r.take())
		if !ok {
			giveUp(r.first, api.ErrOwner)
		}
		return name.Fold(n)
	}
	if len(r.records) == 0 {
		giveUp(r.first, api.ErrOwner)
	}
	return r.records[len(r.records)-1].Name
}

// ttlAndClass reads a TTL and a class, none or one of each, and answers the TTL that the record has.
func (r *reader) ttlAndClass() uint32 {
	ttl := r.ttl
	hasTTL, hasClass := false, false
	for len(r.words) > 0 {
		w := r.words[0]
		v, isNumber := number(w)
		switch {
		case isNumber && !hasTTL:
			r.tell(w, v)
			ttl, hasTTL = v, true
		case isClass(w) && !hasClass:
			if keyword(w) != "in" {
				giveUp(w, api.ErrClass)
			}
			hasClass = true
		default:
			return ttl
		}
		r.take()
	}
	return ttl
}

// tell makes the TTL that a record's word tells the one that holds, unless that is a $TTL's.
func (r *reader) tell(w api.Word, ttl uint32) {
	if ttl > api.MaxTTL {
		giveUp(w, api.ErrTTL)
	}
	if !r.fixed {
		r.ttl = ttl
	}
}

// name is the name that a word tells; false, if it tells none.
func (r *reader) name(w api.Word) (api.Name, bool) {
	if w.Quoted {
		return "", false
	}
	if w.Text == "@" {
		return r.origin, true
	}
	n, e := name.Parse(w.Text, r.origin)
	return n, e == api.OK
}

// keyword is the text of a word in small letters; nothing of one that is quoted. The letters A to Z alone have small ones here; package strings knows more.
func keyword(w api.Word) string {
	if w.Quoted {
		return ""
	}
	return string(name.Fold(api.Name(w.Text)))
}

// number is the number that a word tells; false, if it tells none.
func number(w api.Word) (uint32, bool) {
	if w.Quoted || len(w.Text) > 1 && w.Text[0] == '0' {
		return 0, false
	}
	v, err := strconv.ParseUint(w.Text, 10, 32)
	if err != nil {
		return 0, false
	}
	return uint32(v), true
}

// isClass tells whether a word tells a class, be it served or not.
func isClass(w api.Word) bool {
	switch keyword(w) {
	case "in", "ch", "cs", "hs":
		return true
	}
	return false
}
