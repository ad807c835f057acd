package chase

import (
	"math/rand"
	"slices"
	"strings"
	"testing"

	"hearsay/api"
	"hearsay/lookup"
	"hearsay/master"
	"hearsay/name"
	"hearsay/zone"
)

// lower is a name in small letters, by another way than the package's.
func lower(n api.Name) api.Name {
	b := []byte(n)
	for i, c := range b {
		if 'A' <= c && c <= 'Z' {
			b[i] = c - 'A' + 'a'
		}
	}
	return api.Name(b)
}

// under tells whether n is at or under origin, label by label from the last one on.
func under(n, origin api.Name) bool {
	if name.Check(n) != api.OK || name.Check(origin) != api.OK {
		return false
	}
	l, z := name.Labels(lower(n)), name.Labels(lower(origin))
	return len(l) >= len(z) && slices.Equal(l[len(l)-len(z):], z)
}

// model are zones as a list.
type model []*zone.Zone

// of is the zone of a name, by going through all of them.
func (m model) of(n api.Name) *zone.Zone {
	var best *zone.Zone
	for _, z := range m {
		if under(n, z.Origin()) && (best == nil || name.Count(z.Origin()) > name.Count(best.Origin())) {
			best = z
		}
	}
	return best
}

// resolve is Resolve by the chapter's words; beside it are the names that were gone through.
func (m model) resolve(q api.Question) (api.Answer, []api.Name, bool) {
	if m.of(q.Name) == nil {
		return api.Answer{}, nil, false
	}
	var out api.Answer
	names := []api.Name{q.Name}
	for {
		at := m.of(q.Name)
		if at == nil {
			return api.Answer{AA: out.AA, Answer: out.Answer}, names, true
		}
		a, alias, is := lookup.Find(at, q)
		if len(names) == 1 {
			out.AA = a.AA
		}
		out.Answer = slices.Concat(out.Answer, a.Answer)
		if !is {
			out.Rcode, out.Authority, out.Extra = a.Rcode, a.Authority, a.Extra
			return out, names, true
		}
		if len(names) == 9 {
			return api.Answer{Rcode: 2}, names, true
		}
		names, q.Name = append(names, alias), alias
	}
}

// agree holds what zones tell against the model, and against what follows.
func agree(t *testing.T, m model, s *Zones, q api.Question) {
	t.Helper()
	if z, ok := s.Of(q.Name); z != m.of(q.Name) || ok != (z != nil) {
		t.Fatalf("Of(%q) = %q, %v", string(q.Name), string(z.Origin()), ok)
	}
	a, ok := s.Resolve(q)
	w, names, will := m.resolve(q)
	if !same(a, w) || ok != will {
		t.Fatalf("Resolve(%q, %d, %d) = %v, %v, not %v, %v", string(q.Name), q.Type, q.Class, a, ok, w, will)
	}
	rowed(t, q, a)
	apart(t, m, q, a, names)
}

// rowed asks whether the aliases of an answer are a row.
func rowed(t *testing.T, q api.Question, a api.Answer) {
	t.Helper()
	n, hops := lower(q.Name), 0
	for _, r := range a.Answer {
		if r.Name != n {
			t.Fatalf("Resolve(%q, %d): %v doesn't stand in a row", string(q.Name), q.Type, a.Answer)
		}
		if r.Type == api.TypeCNAME && q.Type != api.TypeCNAME && q.Type != api.TypeANY {
			n = r.Data.Host
			hops++
		}
	}
	if hops > 8 {
		t.Fatalf("Resolve(%q, %d): %d aliases", string(q.Name), q.Type, hops)
	}
}

// apart asks whether just those zones are needed at or under which a name of the row is.
func apart(t *testing.T, m model, q api.Question, a api.Answer, names []api.Name) {
	t.Helper()
	few := slices.DeleteFunc(slices.Clone(m), func(z *zone.Zone) bool {
		return !slices.ContainsFunc(names, func(n api.Name) bool { return under(n, z.Origin()) })
	})
	slices.Reverse(few)
	b, _ := together(t, few...).Resolve(q)
	if !same(a, b) {
		t.Fatalf("Resolve(%q, %d) = %v, and of the zones of its row alone %v", string(q.Name), q.Type, a, b)
	}
}

// universe are all names of at most three labels out of few.
func universe() []api.Name {
	level := []api.Name{api.Root}
	all := slices.Clone(level)
	for range 3 {
		var next []api.Name
		for _, n := range level {
			for _, l := range []string{"\x01a", "\x01A", "\x01b", "\x01*"} {
				next = append(next, api.Name(l)+n)
			}
		}
		all = append(all, next...)
		level = next
	}
	return all
}

// drawnZone is a zone of an origin with many aliases.
func drawnZone(t *testing.T, draws *rand.Rand, origin api.Name, all []api.Name) *zone.Zone {
	t.Helper()
	l := []api.Record{
		{Name: origin, Type: 6, Class: 1, TTL: uint32(draws.Intn(4)), Data: api.Data{Host: "\x01x\x00", Mail: "\x01m\x00", N: [5]uint32{4: uint32(draws.Intn(4))}}},
		{Name: origin, Type: 2, Class: 1, TTL: 3, Data: api.Data{Host: all[draws.Intn(len(all))]}},
	}
	for range draws.Intn(20) {
		r := api.Record{Name: all[draws.Intn(len(all))], Type: []uint16{1, 2, 5, 5, 5, 5, 15}[draws.Intn(7)], Class: 1, TTL: uint32(draws.Intn(5))}
		if r.Type == 1 {
			r.Data.Raw = "aaaa"
		} else {
			r.Data.Host = all[draws.Intn(len(all))]
		}
		if _, _, e := zone.New(origin, append(slices.Clip(l), r)); e == api.OK {
			l = append(l, r)
		}
	}
	z, at, e := zone.New(origin, l)
	if e != api.OK {
		t.Fatalf("New(%v): %v at %d", l, e, at)
	}
	return z
}

// drawnZones are several zones of different origins, and their model.
func drawnZones(t *testing.T, draws *rand.Rand, all []api.Name) (*Zones, model) {
	t.Helper()
	var m model
	for range draws.Intn(7) {
		z := drawnZone(t, draws, all[draws.Intn(min(len(all), 21))], all)
		there := slices.ContainsFunc(m, func(o *zone.Zone) bool { return o.Origin() == z.Origin() })
		s, e := New(append(slices.Clip(m), z)...)
		if there != (e == api.ErrThere) || there == (s != nil) {
			t.Fatalf("New of two %q = %v, %v", string(z.Origin()), s, e)
		}
		if !there {
			m = append(m, z)
		}
	}
	return together(t, m...), m
}

func TestAgainstTheWords(t *testing.T) { // P13.2, P13.3, P13.4, P13.5
	draws := rand.New(rand.NewSource(1))
	all := universe()
	met := map[string]int{}
	for range 1500 {
		s, m := drawnZones(t, draws, all)
		for range 40 {
			q := api.Question{Name: all[draws.Intn(len(all))], Type: []uint16{1, 1, 1, 2, 5, 6, 15, 255}[draws.Intn(8)], Class: 1}
			if draws.Intn(20) == 0 {
				q.Class = uint16(draws.Intn(4))
			}
			agree(t, m, s, q)
			count(met, m, q)
		}
	}
	for _, what := range []string{"no zone", "one zone", "one alias", "several aliases", "from zone to zone", "to no zone", "to no name", "to nothing", "to records", "referral", "too many"} {
		if met[what] < 100 {
			t.Errorf("%s: %d times", what, met[what])
		}
	}
}

// count tells which case was met.
func count(met map[string]int, m model, q api.Question) {
	a, names, ok := m.resolve(q)
	switch hops := len(names) - 1; {
	case !ok:
		met["no zone"]++
		return
	case hops < 1:
		met["one zone"]++
		return
	case a.Rcode == api.ServFail:
		met["too many"]++
		return
	case hops == 1:
		met["one alias"]++
	default:
		met["several aliases"]++
	}
	last := names[len(names)-1]
	switch {
	case m.of(last) == nil:
		met["to no zone"]++
	case m.of(last) != m.of(q.Name):
		met["from zone to zone"]++
	}
	switch {
	case a.Rcode == api.NXDomain:
		met["to no name"]++
	case len(a.Authority) > 0 && a.Authority[0].Type == api.TypeSOA:
		met["to nothing"]++
	case len(a.Authority) > 0:
		met["referral"]++
	case len(a.Answer) > len(names)-1:
		met["to records"]++
	}
}

// FuzzResolve asks zones of any texts for any names: what they tell is held against the chapter's words.
func FuzzResolve(f *testing.F) {
	f.Add("a CNAME b.x\nc A 1.1.1.1\n", "b CNAME c.e.\n", "\x01e\x00", "\x01x\x01e\x00", "\x01A\x01e\x00", uint16(1), uint16(1))
	f.Add("l CNAME l\n* CNAME a.f.\n", "a CNAME a.e.\n", "\x01e\x00", "\x01f\x00", "\x01q\x01e\x00", uint16(15), uint16(1))
	f.Add("o CNAME .\n", "@ CNAME .\n", "\x00", "\x00", "\x00", uint16(5), uint16(3))
	f.Add("s NS a.s\na CNAME b.s\n", "b MX 5 b\n", "\x00", "\x01s\x00", "\x01a\x00", uint16(15), uint16(1))
	f.Fuzz(func(t *testing.T, text, more, origin, other, asked string, kind, class uint16) {
		var m model
		for _, one := range [][2]string{{origin, text}, {other, more}} {
			l, _, e := master.Parse("@ 9 SOA ns m 7 1 2 3 5\n@ NS ns\n"+one[1], api.Name(one[0]), 9)
			if e != api.OK || len(l) > 100 {
				return
			}
			z, _, e := zone.New(api.Name(one[0]), l)
			if e != api.OK {
				return
			}
			m = append(m, z)
		}
		if there := lower(api.Name(origin)) == lower(api.Name(other)); there {
			if _, e := New(m...); e != api.ErrThere {
				t.Fatalf("New of two %q: %v", origin, e)
			}
			m = m[:1]
		}
		s := together(t, m...)
		agree(t, m, s, api.Question{Name: api.Name(asked), Type: kind, Class: class})
		for _, z := range m {
			for _, r := range z.Records() {
				agree(t, m, s, api.Question{Name: r.Name, Type: kind, Class: 1})
				agree(t, m, s, api.Question{Name: api.Name(strings.ToUpper(string(r.Name))), Type: r.Type, Class: 1})
				agree(t, m, s, api.Question{Name: r.Data.Host, Type: kind, Class: 1})
			}
		}
	})
}
