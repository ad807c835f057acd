package cache

import (
	"slices"

	"hearsay/api"
	"hearsay/name"
	"hearsay/rrset"
)

// entry is an answer that was put, when that was, and from when on it is over; and its neighbours in the row.
type entry struct {
	key           api.Question
	answer        api.Answer
	put, over     int
	ahead, behind *entry
}

// told is the entry's answer as it is told now.
func (e *entry) told(now int) api.Answer {
	// What isn't over has gone by less seconds than any of its TTLs has.
	gone := uint32(max(now-e.put, 0) / api.Second)
	return withEach(e.answer, func(r *api.Record) { r.TTL -= gone })
}

// kept is an answer as an entry has it: what is told is the same but for its TTLs.
func kept(a api.Answer) api.Answer {
	a.AA = false
	return withEach(a, func(r *api.Record) { r.Name = name.Fold(r.Name) })
}

// withEach is an answer in new memory, each record of which is changed.
func withEach(a api.Answer, change func(r *api.Record)) api.Answer {
	for _, l := range []*[]api.Record{&a.Answer, &a.Authority, &a.Extra} {
		*l = slices.Clone(*l)
		for i := range *l {
			change(&(*l)[i])
		}
	}
	return a
}

// life is for how many seconds an answer may be told.
func life(a api.Answer) int {
	switch {
	case a.Rcode == api.NoError && len(a.Answer) > 0:
		return int(leastTTL(a))
	case a.Rcode == api.NoError, a.Rcode == api.NXDomain:
		return int(min(leastTTL(a), minimum(a.Authority)))
	}
	return 0
}

// leastTTL is the least one of all of an answer's records.
func leastTTL(a api.Answer) uint32 {
	all := slices.Concat(a.Answer, a.Authority, a.Extra)
	for i := range all {
		all[i].TTL = counted(all[i].TTL)
	}
	return rrset.Least(all)
}

// minimum is for how many seconds the first SOA allows to tell that there is nothing.
func minimum(l []api.Record) uint32 {
	for _, r := range l {
		if r.Type == api.TypeSOA {
			return counted(r.Data.N[4])
		}
	}
	return 0
}

// counted is a number of seconds as it counts.
func counted(seconds uint32) uint32 {
	if seconds > api.MaxTTL {
		return 0
	}
	return seconds
}
