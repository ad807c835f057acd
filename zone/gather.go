package zone

import (
	"cmp"
	"slices"

	"hearsay/api"
	"hearsay/rrset"
	"hearsay/tree"
)

// gather is the zone that records make, whether or not they are sound.
func gather(origin api.Name, l []api.Record) *Zone {
	z := &Zone{origin: origin, sets: tree.New[[]api.Set](), cuts: tree.New[struct{}]()}
	for _, s := range rrset.Sets(l) {
		z.sets.Put(s.Key.Name, append(z.at(s.Key.Name), s))
	}
	// A name comes ahead of those under it, so a cut is there when those under it are asked.
	for n, sets := range z.sets.All() {
		_, below := z.Cut(n)
		_, has := place(sets, api.TypeNS)
		if has && !below && n != origin {
			z.cuts.Put(n, struct{}{})
		}
	}
	return z
}

// place is where among a name's sets the one of a type stands, and whether there is one.
func place(sets []api.Set, t uint16) (int, bool) {
	return slices.BinarySearchFunc(sets, t, func(s api.Set, t uint16) int { return cmp.Compare(s.Key.Type, t) })
}
