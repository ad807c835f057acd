package message

import (
	"iter"
	"slices"

	"hearsay/api"
	"hearsay/rrset"
)

// Fit is what of a message fits into a size.
func Fit(m api.Message, size int) (api.Message, bool, api.Errno) {
	if e := check(m); e != api.OK {
		return api.Message{}, false, e
	}
	f := fittingOf(m, min(size, api.MaxMessage))
	k, long := f.last(), f.whole()
	for ; long > f.size; k-- {
		if k == 0 {
			return api.Message{}, false, api.ErrFull
		}
		long = f.without(k, long)
	}
	return f.left(k), k < f.last(), api.OK
}

// fitting is a message whose groups are taken away until it fits. They have numbers from 1 on, as their first records stand in the message: the one of the greatest number goes next, and what is left are those up to a number. Records that always stay are of the group 0.
type fitting struct {
	m       api.Message
	size    int
	records []api.Record
	of      []int // the number of each record's group
	groups  []group
}

// group is what is known of a group.
type group struct {
	begin int // where its first record begins; all that stands ahead of that is of groups ahead of it
	bytes int // how many bytes its records have in the whole message
	least int // how many bytes the records of all groups up to it have at least
	more  int // how many bytes there are ahead of its first record beyond those that the records there have at least
}

// fittingOf is a message with its groups' numbers.
func fittingOf(m api.Message, size int) *fitting {
	f := &fitting{m: m, size: size, records: records(m), groups: make([]group, 1)}
	for _, part := range parts(&m) {
		known := map[api.Key]int{}
		for _, r := range *part {
			if part == &m.Extra && r.Type == api.TypeOPT {
				f.of = append(f.of, 0)
				continue
			}
			key := rrset.KeyOf(r)
			if known[key] == 0 {
				known[key] = len(f.groups)
				f.groups = append(f.groups, group{})
			}
			f.of = append(f.of, known[key])
		}
	}
	return f
}

// last is the greatest number of a group.
func (f *fitting) last() int { return len(f.groups) - 1 }

// whole fills in what is known of the groups, and answers how many bytes the whole message has.
func (f *fitting) whole() int {
	long, least := f.front(), 0
	for i, bytes := range f.sizes(f.last()) {
		g := &f.groups[f.of[i]]
		if g.bytes == 0 {
			g.begin, g.more = long, long-least
		}
		own := leastOf(f.records[i])
		g.bytes += bytes
		g.least += own
		long += bytes
		least += own
	}
	for k := range f.last() {
		f.groups[k+1].least += f.groups[k].least
	}
	return long
}

// without is how many bytes are left without the group k, if they are too long with it, or some number above size, if they are too long without it. To write thousands of records for each of thousands of groups would take too long, so it is told without that where it can be.
func (f *fitting) without(k, long int) int {
	g := f.groups[k]
	if g.begin >= reach {
		// No pointer leads to what goes, nor to what moves up: so all other records stay as long as they are.
		return long - g.bytes
	}
	// Others may become shorter now, or longer, if they used the names of what goes: but what stands ahead stays, and the rest has its least.
	if least := g.more + f.groups[k-1].least; least > f.size {
		return least
	}
	return f.upTo(k - 1)
}

// upTo is how many bytes the groups up to k have, or some number above size.
func (f *fitting) upTo(k int) int {
	long := f.front()
	for _, bytes := range f.sizes(k) {
		if long += bytes; long > f.size {
			break
		}
	}
	return long
}

// front is how many bytes stand ahead of the records.
func (f *fitting) front() int { return len(begin(f.m).bytes) }

// sizes tells of each record of the groups up to k how many bytes it has, where just these are written.
func (f *fitting) sizes(k int) iter.Seq2[int, int] {
	return func(yield func(int, int) bool) {
		w := begin(f.m)
		for i, r := range f.records {
			if f.of[i] > k {
				continue
			}
			// The bytes themselves are not asked for, and all of them could be many.
			w.bytes = w.bytes[:min(len(w.bytes), reach)]
			at := len(w.bytes)
			w.record(r)
			if !yield(i, len(w.bytes)-at) {
				return
			}
		}
	}
}

// left is the message with its groups up to k.
func (f *fitting) left(k int) api.Message {
	m := f.m
	m.TC = m.TC || k < f.last()
	m.Questions = slices.Clone(m.Questions)
	at := 0
	for _, part := range parts(&m) {
		var stay []api.Record
		for _, r := range *part {
			if f.of[at] <= k {
				stay = append(stay, r)
			}
			at++
		}
		*part = stay
	}
	return m
}

// leastOf is how many bytes a record has at least: each name those of a pointer, or of the root.
func leastOf(r api.Record) int {
	return min(len(r.Name), 2) + 10 + len(r.Data.Raw) + min(len(r.Data.Host), 2) + min(len(r.Data.Mail), 2)
}
