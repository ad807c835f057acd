package lookup

import (
	"hearsay/api"
	"hearsay/name"
	"hearsay/zone"
)

// source is where a zone has what it tells of a name: at the name itself, or at a wildcard. The zero source has nothing.
type source struct {
	zone     *zone.Zone
	at, name api.Name
}

// sourceOf is the source of a name, in small letters, that no cut is at or above; false, if there is none.
func sourceOf(z *zone.Zone, n api.Name) (source, bool) {
	if z.Exists(n) {
		return source{z, n, n}, true
	}
	top, _ := z.Encloser(n)
	wild, e := name.Wild(top)
	if e != api.OK || !z.Exists(wild) {
		return source{}, false
	}
	return source{z, wild, n}, true
}

// records are those of a type, as the name's own.
func (s source) records(t uint16) []api.Record {
	l := s.zone.Set(s.at, t)
	for i := range l {
		l[i].Name = s.name
	}
	return l
}

// asked are the records that a question's type means: those of all types, if it is ANY.
func (s source) asked(t uint16) []api.Record {
	if t != api.TypeANY {
		return s.records(t)
	}
	var l []api.Record
	for _, t := range s.zone.Types(s.at) {
		l = append(l, s.records(t)...)
	}
	return l
}
