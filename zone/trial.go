package zone

import (
	"slices"

	"hearsay/api"
	"hearsay/name"
	"hearsay/rdata"
	"hearsay/rrset"
)

// trial is records that are looked at, and the zone that they make if they are sound.
type trial struct {
	zone    *Zone
	records []api.Record
}

// fault is the first fault of the records, and its place.
func (t trial) fault() (int, api.Errno) {
	for _, check := range []func() (int, api.Errno){t.singly, t.apex, t.servers, t.alone, t.below} {
		if at, e := check(); e != api.OK {
			return at, e
		}
	}
	return 0, api.OK
}

// singly looks at each record by itself.
func (t trial) singly() (int, api.Errno) {
	for i, r := range t.records {
		if e := t.single(r); e != api.OK {
			return i, e
		}
	}
	return 0, api.OK
}

// single is what is wrong with a record by itself.
func (t trial) single(r api.Record) api.Errno {
	switch {
	case !name.Under(r.Name, t.zone.origin):
		return api.ErrOut
	case r.Class != api.ClassIN:
		return api.ErrClass
	case !ofData(r.Type):
		return api.ErrType
	case r.TTL > api.MaxTTL:
		return api.ErrTTL
	}
	return rdata.Check(r.Type, r.Data)
}

// ofData tells whether records may have this type: others stand in questions, or speak of a message.
func ofData(t uint16) bool {
	return t != 0 && t != api.TypeOPT && (t < 249 || t > api.TypeANY)
}

// apex looks for one SOA, at the origin.
func (t trial) apex() (int, api.Errno) {
	is := func(r api.Record) bool { return r.Type == api.TypeSOA }
	i := slices.IndexFunc(t.records, is)
	if i < 0 {
		return 0, api.ErrApex
	}
	ahead := t.records[i : i+1]
	return t.first(api.ErrApex, func(r api.Record) bool {
		return is(r) && (name.Fold(r.Name) != t.zone.origin || !rrset.Same(ahead, []api.Record{r}))
	})
}

// servers looks for an NS at the origin.
func (t trial) servers() (int, api.Errno) {
	if _, ok := place(t.zone.at(t.zone.origin), api.TypeNS); !ok {
		return 0, api.ErrNS
	}
	return 0, api.OK
}

// alone looks for a CNAME beside something else: then it is wrong with all records at its name.
func (t trial) alone() (int, api.Errno) {
	return t.first(api.ErrAlone, func(r api.Record) bool {
		sets := t.zone.at(r.Name)
		i, ok := place(sets, api.TypeCNAME)
		return ok && (len(sets) > 1 || len(sets[i].Data) > 1)
	})
}

// below looks at or under cuts for what is no address, nor the cut's NS.
func (t trial) below() (int, api.Errno) {
	return t.first(api.ErrBelow, func(r api.Record) bool {
		cut, ok := t.zone.Cut(r.Name)
		switch r.Type {
		case api.TypeA, api.TypeAAAA:
			return false
		case api.TypeNS:
			return ok && name.Fold(r.Name) != cut
		}
		return ok
	})
}

// first is this error at the first record of which it is said.
func (t trial) first(e api.Errno, said func(api.Record) bool) (int, api.Errno) {
	if i := slices.IndexFunc(t.records, said); i >= 0 {
		return i, e
	}
	return 0, api.OK
}
