package lookup

import (
	"math/rand"
	"reflect"
	"slices"
	"strings"
	"testing"

	"hearsay/api"
	"hearsay/master"
	"hearsay/name"
	"hearsay/rrset"
	"hearsay/zone"
)

// lower is a name in small letters, by another way than the package's.
func lower(n api.Name) api.Name {
	b := []byte(n)
	for i, c := range b {
		if 'A' <= c && c <= 'Z' {
			b[i] = c - 'A' + 'a'
		}
	}
	return api.Name(b)
}

// upper is a name in capitals.
func upper(n api.Name) api.Name {
	b := []byte(n)
	for i, c := range b {
		if 'a' <= c && c <= 'z' {
			b[i] = c - 'a' + 'A'
		}
	}
	return api.Name(b)
}

// under tells whether n is at or under zone, label by label from the last one on.
func under(n, zone api.Name) bool {
	if name.Check(n) != api.OK || name.Check(zone) != api.OK {
		return false
	}
	l, z := name.Labels(lower(n)), name.Labels(lower(zone))
	return len(l) >= len(z) && slices.Equal(l[len(l)-len(z):], z)
}

// model is a zone as its records, each thing looked for in all of them.
type model struct {
	origin api.Name
	l      []api.Record
}

// those are the records that are to be kept, in order.
func (m model) those(keep func(r api.Record) bool) []api.Record {
	var out []api.Record
	for _, r := range m.l {
		if keep(r) {
			out = append(out, r)
		}
	}
	return out
}

// exists tells whether something is at or under a name of the zone.
func (m model) exists(n api.Name) bool {
	return under(n, m.origin) && len(m.those(func(r api.Record) bool { return under(r.Name, n) })) > 0
}

// cut is the highest name below the origin, from n upwards, that has an NS.
func (m model) cut(n api.Name) (api.Name, bool) {
	for k := name.Count(m.origin) + 1; k <= name.Count(n); k++ {
		up, _ := name.Last(lower(n), k)
		if len(m.those(func(r api.Record) bool { return r.Name == up && r.Type == api.TypeNS })) > 0 {
			return up, true
		}
	}
	return "", false
}

// wild is the wildcard of the encloser of a name.
func (m model) wild(n api.Name) api.Name {
	for k := name.Count(n); ; k-- {
		if up, _ := name.Last(lower(n), k); m.exists(up) {
			return "\x01*" + up
		}
	}
}

// hosts are the addresses of records.
func (m model) hosts(l []api.Record) []api.Record {
	var out []api.Record
	for i, r := range l {
		again := slices.ContainsFunc(l[:i], func(o api.Record) bool { return o.Data.Host == r.Data.Host })
		if again || !slices.Contains([]uint16{2, 15, 33}, r.Type) {
			continue
		}
		for _, kind := range []uint16{1, 28} {
			out = append(out, m.those(func(o api.Record) bool { return o.Name == r.Data.Host && o.Type == kind })...)
		}
	}
	return out
}

// find is Find by the chapter's words, case by case.
func (m model) find(q api.Question) (api.Answer, api.Name, bool) {
	n := lower(q.Name)
	if !under(n, m.origin) || q.Class != 1 {
		return api.Answer{Rcode: 5}, "", false
	}
	if cut, ok := m.cut(n); ok {
		l := m.those(func(r api.Record) bool { return r.Name == cut && r.Type == 2 })
		return api.Answer{Authority: l, Extra: m.hosts(l)}, "", false
	}
	last := m.l[0]
	last.TTL = min(last.TTL, last.Data.N[4])
	from := n
	if !m.exists(n) {
		from = m.wild(n)
	}
	if !m.exists(from) {
		return api.Answer{Rcode: 3, AA: true, Authority: []api.Record{last}}, "", false
	}
	own := m.those(func(r api.Record) bool { return r.Name == from })
	for i := range own {
		own[i].Name = n
	}
	slices.SortStableFunc(own, func(a, b api.Record) int { return int(a.Type) - int(b.Type) })
	if len(own) == 1 && own[0].Type == 5 && q.Type != 5 && q.Type != 255 {
		return api.Answer{AA: true, Answer: own}, own[0].Data.Host, true
	}
	if q.Type == 255 && len(own) > 0 {
		return api.Answer{AA: true, Answer: own}, "", false
	}
	own = slices.DeleteFunc(own, func(r api.Record) bool { return r.Type != q.Type })
	if len(own) > 0 {
		return api.Answer{AA: true, Answer: own, Extra: m.hosts(own)}, "", false
	}
	return api.Answer{AA: true, Authority: []api.Record{last}}, "", false
}

// plain is an answer whose lists are nil where they are empty.
func plain(a api.Answer) api.Answer {
	for _, l := range []*[]api.Record{&a.Answer, &a.Authority, &a.Extra} {
		if len(*l) == 0 {
			*l = nil
		}
	}
	return a
}

// agree holds what a zone tells against the model, and against what follows.
func agree(t *testing.T, z *zone.Zone, m model, q api.Question) {
	t.Helper()
	a, alias, is := Find(z, q)
	w, to, will := m.find(q)
	if !reflect.DeepEqual(plain(a), w) || alias != to || is != will {
		t.Fatalf("Find(%q, %d, %d) = %v, %q, %v, not %v, %q, %v, in %v", string(q.Name), q.Type, q.Class, a, string(alias), is, w, string(to), will, m.l)
	}
	for _, n := range []api.Name{lower(q.Name), upper(q.Name)} {
		b, other, same := Find(z, api.Question{Name: n, Type: q.Type, Class: q.Class})
		if !reflect.DeepEqual(a, b) || alias != other || is != same {
			t.Fatalf("Find(%q, %d) hangs on capitals: %v, %v", string(q.Name), q.Type, a, b)
		}
	}
	stands(t, m, q, a)
}

// stands asks whether all that is told stands in the zone, and NXDomain is told where it must be.
func stands(t *testing.T, m model, q api.Question, a api.Answer) {
	t.Helper()
	_, below := m.cut(q.Name)
	inside := under(q.Name, m.origin) && q.Class == 1
	gone := inside && !below && !m.exists(q.Name) && !m.exists(m.wild(q.Name))
	if (a.Rcode == api.NXDomain) != gone {
		t.Fatalf("Find(%q, %d): Rcode %d, in %v", string(q.Name), q.Type, a.Rcode, m.l)
	}
	for _, r := range a.Answer {
		own := r
		if !m.exists(q.Name) {
			own.Name = m.wild(q.Name)
		}
		if r.Name != lower(q.Name) || !slices.Contains(m.l, own) {
			t.Fatalf("Find(%q, %d) answers %v", string(q.Name), q.Type, r)
		}
	}
	for _, r := range append(a.Authority, a.Extra...) {
		if r.Type == api.TypeSOA {
			r.TTL = m.l[0].TTL
		}
		if !slices.Contains(m.l, r) {
			t.Fatalf("Find(%q, %d) tells %v", string(q.Name), q.Type, r)
		}
	}
}

// answered asks whether each record that no cut is at or above is told to who asks for it.
func answered(t *testing.T, z *zone.Zone, m model) {
	t.Helper()
	for _, r := range m.l {
		a, alias, is := Find(z, api.Question{Name: upper(r.Name), Type: r.Type, Class: 1})
		if _, below := m.cut(r.Name); slices.Contains(a.Answer, r) == below || is || alias != "" {
			t.Fatalf("Find(%q, %d) = %v, in %v", string(r.Name), r.Type, a, m.l)
		}
	}
}

// universe are all names of at most three labels out of these, under one of the ends.
func universe() []api.Name {
	level := []api.Name{"\x01e\x00", "\x01E\x00", "\x01f\x00"}
	all := append([]api.Name{api.Root}, level...)
	for range 3 {
		var next []api.Name
		for _, n := range level {
			for _, l := range []string{"\x01a", "\x01A", "\x01b", "\x01*"} {
				next = append(next, api.Name(l)+n)
			}
		}
		all = append(all, next...)
		level = next
	}
	return all
}

// drawnRecord is a record at or under e., of data that are often a name of the zone.
func drawnRecord(draws *rand.Rand, all []api.Name) api.Record {
	kinds := []uint16{1, 1, 28, 28, 2, 2, 5, 5, 15, 15, 33, 12, 16, 99}
	r := api.Record{Name: all[draws.Intn(len(all))], Type: kinds[draws.Intn(len(kinds))], Class: 1, TTL: uint32(draws.Intn(5))}
	for !under(r.Name, "\x01e\x00") {
		r.Name = all[draws.Intn(len(all))]
	}
	switch r.Type {
	case 1:
		r.Data.Raw = "aaa" + string(rune('a'+draws.Intn(3)))
	case 28:
		r.Data.Raw = strings.Repeat("a", 15) + string(rune('a'+draws.Intn(2)))
	case 2, 5, 12, 15, 33:
		r.Data.Host = all[draws.Intn(len(all))]
		if draws.Intn(2) == 0 {
			r.Data.Host = "\x01A\x01e\x00"
		}
	case 16:
		r.Data.Raw = "\x00"
	}
	if r.Type == 15 || r.Type == 33 {
		r.Data.N[0] = uint32(draws.Intn(2))
	}
	return r
}

// drawnZone is a zone of e. with some records, and its model.
func drawnZone(t *testing.T, draws *rand.Rand, all []api.Name) (*zone.Zone, model) {
	t.Helper()
	l := []api.Record{
		{Name: "\x01E\x00", Type: 6, Class: 1, TTL: uint32(draws.Intn(4)), Data: api.Data{Host: "\x01x\x00", Mail: "\x01m\x00", N: [5]uint32{4: uint32(draws.Intn(4))}}},
		{Name: "\x01e\x00", Type: 2, Class: 1, TTL: 3, Data: api.Data{Host: all[draws.Intn(len(all))]}},
	}
	for range draws.Intn(14) {
		r := drawnRecord(draws, all)
		if _, _, e := zone.New("\x01e\x00", append(slices.Clip(l), r)); e == api.OK {
			l = append(l, r)
		}
	}
	z, at, e := zone.New("\x01e\x00", l)
	if e != api.OK {
		t.Fatalf("New(%v): %v at %d", l, e, at)
	}
	return z, model{"\x01e\x00", z.Records()}
}

func TestAgainstTheWords(t *testing.T) { // P12.1, P12.2, P12.3
	draws := rand.New(rand.NewSource(1))
	all := universe()
	met := map[string]int{}
	for range 2000 {
		z, m := drawnZone(t, draws, all)
		answered(t, z, m)
		for range 40 {
			q := api.Question{Name: all[draws.Intn(len(all))], Type: []uint16{0, 1, 1, 2, 2, 5, 6, 12, 15, 15, 16, 28, 33, 99, 252, 255, 255}[draws.Intn(17)], Class: 1}
			if draws.Intn(3) == 0 {
				r := m.l[draws.Intn(len(m.l))]
				q.Name, q.Type = r.Name, []uint16{r.Type, r.Type, q.Type}[draws.Intn(3)]
			}
			if draws.Intn(40) == 0 {
				q.Class = uint16(draws.Intn(4))
			}
			agree(t, z, m, q)
			a, _, is := Find(z, q)
			count(met, m, q, a, is)
		}
	}
	for _, what := range []string{"refused", "referral", "no name", "alias", "alias of a wildcard", "any", "any of a wildcard", "records", "records of a wildcard", "addresses", "nothing", "nothing at a wildcard"} {
		if met[what] < 100 {
			t.Errorf("%s: %d times", what, met[what])
		}
	}
}

// count tells which case was met.
func count(met map[string]int, m model, q api.Question, a api.Answer, is bool) {
	what := "records"
	switch {
	case a.Rcode == api.Refused:
		what = "refused"
	case !a.AA:
		what = "referral"
	case a.Rcode == api.NXDomain:
		what = "no name"
	case is:
		what = "alias"
	case len(a.Answer) == 0:
		what = "nothing"
	case q.Type == api.TypeANY:
		what = "any"
	case len(a.Extra) > 0:
		met["addresses"]++
	}
	met[what]++
	if a.AA && a.Rcode == api.NoError && !m.exists(q.Name) {
		if what == "nothing" {
			what = "nothing at a wildcard"
		} else {
			what += " of a wildcard"
		}
		met[what]++
	}
}

// FuzzFind asks zones of any texts for any names: what they tell is held against the chapter's words.
func FuzzFind(f *testing.F) {
	f.Add("ns A 1.1.1.1\n* A 2.2.2.2\nx.y TXT x\nw CNAME F.\ns NS a.s\na.s A 1.1.1.1\n", "\x01e\x00", "\x01q", uint16(1), uint16(1))
	f.Add("@ MX 5 ns\n@ MX 6 NS\nns A 1.1.1.1\n", "\x01E\x00", "", uint16(15), uint16(1))
	f.Add("* NS a.*\na.* A 1.1.1.1\n", "\x00", "\x01Q", uint16(2), uint16(1))
	f.Add("x.*.d AAAA ::1\n*.c CNAME d\n", "\x01e\x00", "\x01q\x01C", uint16(255), uint16(1))
	f.Add("a SRV 1 2 3 b\nb A 1.1.1.1\n", "\x01e\x00", "\x01A", uint16(33), uint16(3))
	f.Fuzz(func(t *testing.T, text, o, front string, kind, class uint16) {
		origin := api.Name(o)
		l, _, e := master.Parse("@ 9 SOA ns m 7 1 2 3 5\n@ NS ns\n"+text, origin, 9)
		if e != api.OK || len(l) > 100 {
			return
		}
		z, _, e := zone.New(origin, l)
		if e != api.OK {
			return
		}
		m := model{lower(origin), z.Records()}
		if !rrset.Same(m.l, l) {
			t.Fatalf("the zone of %v has %v", l, m.l)
		}
		answered(t, z, m)
		agree(t, z, m, api.Question{Name: api.Name(front + o), Type: kind, Class: class})
		for _, r := range m.l {
			agree(t, z, m, api.Question{Name: r.Name, Type: kind, Class: 1})
			agree(t, z, m, api.Question{Name: api.Name(front) + r.Name, Type: r.Type, Class: 1})
			if up, ok := name.Parent(r.Name); ok {
				agree(t, z, m, api.Question{Name: api.Name(front) + up, Type: r.Type, Class: 1})
			}
		}
	})
}
