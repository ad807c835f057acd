package rdata

import (
	"slices"

	"hearsay/api"
	"hearsay/octet"
	"hearsay/press"
)

// Put writes data.
func Put(b []byte, tab *press.Table, t uint16, d api.Data) ([]byte, api.Errno) {
	if tab == nil {
		return nil, api.ErrNil
	}
	if e := Check(t, d); e != api.OK {
		return nil, e
	}
	// Each part makes a new list, so that b stays as it is. Check took the data: the table takes their names.
	out, numbers := b, 0
	for _, p := range partsOf(t) {
		switch p {
		case four, eight, texts, octets:
			out = slices.Concat(out, []byte(d.Raw))
		case host:
			out, _ = tab.Put(out, d.Host)
		case bare:
			out, _ = tab.Plain(out, d.Host)
		case mail:
			out, _ = tab.Put(out, d.Mail)
		case narrow:
			out = octet.Put(out, uint16(d.N[numbers]))
			numbers++
		case wide:
			out = octet.Put(out, d.N[numbers])
			numbers++
		}
	}
	return out, api.OK
}

// Take reads data.
func Take(b []byte, at, n int, t uint16) (api.Data, api.Errno) {
	if at < 0 || n < 0 || at > len(b) || n > len(b)-at {
		return api.Data{}, api.ErrArg
	}
	r := reading{bytes: b, at: at, end: at + n}
	for _, p := range partsOf(t) {
		if e := r.part(p); e != api.OK {
			return api.Data{}, e
		}
	}
	if r.at != r.end || Check(t, r.data) != api.OK {
		return api.Data{}, api.ErrData
	}
	return r.data, api.OK
}

// reading is data that are read part by part: where the next part begins, and where the data end, in all the bytes.
type reading struct {
	bytes   []byte
	at, end int
	data    api.Data
	numbers int
}

// part reads the next part.
func (r *reading) part(p part) api.Errno {
	switch p {
	case four, eight, texts, octets:
		return r.raw()
	case host, bare:
		return r.name(&r.data.Host)
	case mail:
		return r.name(&r.data.Mail)
	case narrow:
		v, behind, e := octet.Take[uint16](r.bytes[:r.end], r.at)
		return r.number(uint32(v), behind, e)
	case wide:
		v, behind, e := octet.Take[uint32](r.bytes[:r.end], r.at)
		return r.number(v, behind, e)
	}
	return api.OK
}

// raw reads all bytes that are left.
func (r *reading) raw() api.Errno {
	if r.end-r.at > api.MaxData {
		return api.ErrData
	}
	r.data.Raw = string(r.bytes[r.at:r.end])
	r.at = r.end
	return api.OK
}

// name reads a name. Its pointers lead to places in all the bytes, so that they are read, and only then it is seen whether it ends behind the data.
func (r *reading) name(to *api.Name) api.Errno {
	n, behind, e := press.Take(r.bytes, r.at)
	if e != api.OK {
		return e
	}
	if behind > r.end {
		return api.ErrData
	}
	*to, r.at = n, behind
	return api.OK
}

// number keeps a number that was taken, unless the data ended ahead of it.
func (r *reading) number(v uint32, behind int, e api.Errno) api.Errno {
	if e != api.OK {
		return api.ErrData
	}
	r.data.N[r.numbers] = v
	r.numbers++
	r.at = behind
	return api.OK
}
