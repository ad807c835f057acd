package press

import (
	"hearsay/api"
	"hearsay/octet"
)

// Take reads a name.
func Take(b []byte, at int) (api.Name, int, api.Errno) {
	r := reading{bytes: b}
	end, e := r.row(at)
	for e == api.OK && r.leads {
		_, e = r.row(r.to)
	}
	if e != api.OK {
		return "", 0, e
	}
	return api.Name(r.labels) + api.Root, end, api.OK
}

// reading is a name that is read row by row: its labels so far, and whether a pointer leads on, and to which place.
type reading struct {
	bytes  []byte
	labels []byte
	leads  bool
	to     int
}

// row reads the row that begins at a place, and answers the place behind its end.
func (r *reading) row(begin int) (int, api.Errno) {
	at := begin
	for {
		size, behind, e := octet.Take[uint8](r.bytes, at)
		switch {
		case e != api.OK:
			return 0, e
		case size == 0:
			r.leads = false
			return behind, api.OK
		case size >= pointer>>8:
			return r.pointer(begin, at)
		case size > api.MaxLabel:
			return 0, api.ErrKind
		}
		if at, e = r.label(at); e != api.OK {
			return 0, e
		}
	}
}

// label reads the label at a place, and answers the place behind it.
func (r *reading) label(at int) (int, api.Errno) {
	_, behind, e := octet.TakeText(r.bytes, at)
	if e != api.OK {
		return 0, e
	}
	if len(r.labels)+behind-at+len(api.Root) > api.MaxName {
		return 0, api.ErrLong
	}
	r.labels = append(r.labels, r.bytes[at:behind]...)
	return behind, api.OK
}

// pointer reads the pointer at a place of the row that begins at begin, and answers the place behind it. It must lead ahead of that row, not only ahead of itself: so reading ends.
func (r *reading) pointer(begin, at int) (int, api.Errno) {
	number, behind, e := octet.Take[uint16](r.bytes, at)
	if e != api.OK {
		return 0, e
	}
	r.leads, r.to = true, int(number-pointer)
	if r.to >= begin {
		return 0, api.ErrPointer
	}
	return behind, api.OK
}
