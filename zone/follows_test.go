package zone

import (
	"math/rand"
	"slices"
	"strings"
	"testing"

	"hearsay/api"
	"hearsay/master"
	"hearsay/name"
	"hearsay/rdata"
	"hearsay/rrset"
)

// lower is a name in small letters, by another way than the package's.
func lower(n api.Name) api.Name {
	b := []byte(n)
	for i, c := range b {
		if 'A' <= c && c <= 'Z' {
			b[i] = c - 'A' + 'a'
		}
	}
	return api.Name(b)
}

// under tells whether n is at or under zone, label by label from the last one on.
func under(n, zone api.Name) bool {
	if name.Check(n) != api.OK {
		return false
	}
	l, z := name.Labels(lower(n)), name.Labels(lower(zone))
	return len(l) >= len(z) && slices.Equal(l[len(l)-len(z):], z)
}

// alike tells whether two records are alike.
func alike(a, b api.Record) bool {
	a, b = rrset.Fold(a), rrset.Fold(b)
	a.TTL, b.TTL = 0, 0
	return a == b
}

// cutsOf are the cuts of records, by the chapter's words.
func cutsOf(origin api.Name, l []api.Record) []api.Name {
	var cuts []api.Name
	for _, r := range l {
		n := lower(r.Name)
		above := slices.ContainsFunc(l, func(o api.Record) bool {
			return o.Type == api.TypeNS && lower(o.Name) != n && under(n, o.Name) && !under(origin, o.Name)
		})
		if r.Type == api.TypeNS && n != lower(origin) && !above {
			cuts = append(cuts, n)
		}
	}
	return cuts
}

// singleFault is what is wrong with a record by itself.
func singleFault(origin api.Name, r api.Record) api.Errno {
	if !under(r.Name, origin) {
		return api.ErrOut
	}
	if r.Class != 1 {
		return api.ErrClass
	}
	if slices.Contains([]uint16{0, 41, 249, 250, 251, 252, 253, 254, 255}, r.Type) {
		return api.ErrType
	}
	if r.TTL >= 1<<31 {
		return api.ErrTTL
	}
	return rdata.Check(r.Type, r.Data)
}

// faultOf is the first fault of records, by the chapter's words, each record held against all.
func faultOf(origin api.Name, l []api.Record) (int, api.Errno) {
	if name.Check(origin) != api.OK {
		return 0, api.ErrName
	}
	if len(l) > 4096 {
		return 0, api.ErrLong
	}
	for i, r := range l {
		if e := singleFault(origin, r); e != api.OK {
			return i, e
		}
	}
	first := slices.IndexFunc(l, func(r api.Record) bool { return r.Type == api.TypeSOA })
	for i, r := range l {
		if r.Type == api.TypeSOA && (lower(r.Name) != lower(origin) || !alike(r, l[first])) {
			return i, api.ErrApex
		}
	}
	if first < 0 {
		return 0, api.ErrApex
	}
	if !slices.ContainsFunc(l, func(r api.Record) bool { return r.Type == api.TypeNS && lower(r.Name) == lower(origin) }) {
		return 0, api.ErrNS
	}
	for i, r := range l {
		for _, o := range l {
			if lower(r.Name) == lower(o.Name) && !alike(r, o) && (r.Type == api.TypeCNAME || o.Type == api.TypeCNAME) {
				return i, api.ErrAlone
			}
		}
	}
	for i, r := range l {
		for _, cut := range cutsOf(origin, l) {
			if under(r.Name, cut) && r.Type != api.TypeA && r.Type != api.TypeAAAA && (r.Type != api.TypeNS || lower(r.Name) != cut) {
				return i, api.ErrBelow
			}
		}
	}
	return 0, api.OK
}

// recordsOf are the records that a zone of these has, by the chapter's words.
func recordsOf(l []api.Record) []api.Record {
	var out []api.Record
	for i, r := range l {
		if slices.ContainsFunc(l[:i], func(o api.Record) bool { return alike(r, o) }) {
			continue
		}
		for _, o := range l {
			if lower(o.Name) == lower(r.Name) && o.Type == r.Type {
				r.TTL = min(r.TTL, o.TTL)
			}
		}
		out = append(out, rrset.Fold(r))
	}
	slices.SortFunc(out, rrset.Cmp)
	i := slices.IndexFunc(out, func(r api.Record) bool { return r.Type == api.TypeSOA })
	own := out[i]
	return slices.Insert(slices.Delete(out, i, i+1), 0, own)
}

// agree holds what a zone tells of a name against its records.
func agree(t *testing.T, z *Zone, l []api.Record, n api.Name) {
	t.Helper()
	var types []uint16
	exists := false
	for _, r := range l {
		if r.Name == lower(n) {
			types = append(types, r.Type)
		}
		exists = exists || under(r.Name, n) && under(n, z.Origin())
	}
	slices.Sort(types)
	types = slices.Compact(types)
	if got := z.Types(n); !slices.Equal(got, types) {
		t.Fatalf("Types(%q) = %v, not %v", string(n), got, types)
	}
	if z.Exists(n) != exists {
		t.Fatalf("Exists(%q) is not %v", string(n), exists)
	}
	for _, kind := range append(types, api.TypeMX) {
		want := slices.DeleteFunc(slices.Clone(l), func(r api.Record) bool { return r.Name != lower(n) || r.Type != kind })
		if got := z.Set(n, kind); !slices.Equal(got, want) {
			t.Fatalf("Set(%q, %d) = %v, not %v", string(n), kind, got, want)
		}
	}
	var cut, top api.Name
	for _, c := range cutsOf(z.Origin(), l) {
		if under(n, c) {
			cut = c
		}
	}
	if got, ok := z.Cut(n); got != cut || ok != (cut != "") {
		t.Fatalf("Cut(%q) = %q, %v, not %q", string(n), string(got), ok, string(cut))
	}
	for k := range name.Count(n) + 1 {
		if up, _ := name.Last(n, k); under(up, z.Origin()) && slices.ContainsFunc(l, func(r api.Record) bool { return under(r.Name, up) }) {
			top = lower(up)
		}
	}
	if got, ok := z.Encloser(n); got != top || ok != (top != "") {
		t.Fatalf("Encloser(%q) = %q, %v, not %q", string(n), string(got), ok, string(top))
	}
}

// sound asks of a zone's Records what is to be seen in them.
func sound(t *testing.T, z *Zone) {
	t.Helper()
	l := z.Records()
	if l[0].Type != api.TypeSOA || l[0].Name != z.Origin() || l[0] != z.SOA() || l[0].Data.N[0] != z.Serial() {
		t.Fatalf("the first record is %v", l[0])
	}
	if len(z.Set(z.Origin(), api.TypeNS)) == 0 {
		t.Fatal("no NS at the origin")
	}
	for i, r := range l {
		if i > 0 && r.Type == api.TypeSOA || i > 1 && rrset.Cmp(l[i-1], r) >= 0 {
			t.Fatalf("%v at the place %d of %v", r, i, l)
		}
		if r != rrset.Fold(r) || r.Class != api.ClassIN || rdata.Check(r.Type, r.Data) != api.OK || !under(r.Name, z.Origin()) {
			t.Fatalf("%v is a record", r)
		}
		for k, o := range l {
			if i != k && (alike(r, o) || rrset.KeyOf(r) == rrset.KeyOf(o) && r.TTL != o.TTL || r.Name == o.Name && r.Type == api.TypeCNAME) {
				t.Fatalf("%v stands beside %v", r, o)
			}
		}
		if cut, ok := z.Cut(r.Name); ok && r.Type != api.TypeA && r.Type != api.TypeAAAA && (r.Type != api.TypeNS || r.Name != cut) {
			t.Fatalf("%v stands below the cut %q", r, string(cut))
		}
	}
}

// universe are all names of at most three labels out of these, under one of the ends.
func universe() []api.Name {
	level := []api.Name{"\x01e\x00", "\x01E\x00", "\x01f\x00"}
	all := append([]api.Name{api.Root}, level...)
	for range 3 {
		var next []api.Name
		for _, n := range level {
			for _, l := range []string{"\x01a", "\x01A", "\x01b", "\x01*"} {
				next = append(next, api.Name(l)+n)
			}
		}
		all = append(all, next...)
		level = next
	}
	return all
}

// drawn is a record of which little may be wrong.
func drawn(draws *rand.Rand, all []api.Name) api.Record {
	kinds := []uint16{api.TypeA, api.TypeA, api.TypeA, api.TypeAAAA, api.TypeAAAA, api.TypeNS, api.TypeNS, api.TypeNS, api.TypeCNAME, api.TypeTXT, api.TypeSOA, 99, api.TypeANY}
	r := api.Record{Name: all[draws.Intn(len(all))], Type: kinds[draws.Intn(len(kinds))], Class: api.ClassIN, TTL: uint32(draws.Intn(3))}
	if draws.Intn(20) > 0 && !under(r.Name, "\x01e\x00") {
		r.Name = "\x01B\x01E\x00"
	}
	switch r.Type {
	case api.TypeA:
		r.Data.Raw = strings.Repeat("a", 3) + string(rune('a'+draws.Intn(2)))
	case api.TypeAAAA:
		r.Data.Raw = strings.Repeat("a", 16)
	case api.TypeNS, api.TypeCNAME:
		r.Data.Host = []api.Name{"\x01x\x00", "\x01X\x00", "\x01y\x00"}[draws.Intn(3)]
	case api.TypeSOA:
		r.Name = []api.Name{"\x01e\x00", "\x01E\x00", "\x01e\x00", "\x01E\x00", r.Name}[draws.Intn(5)]
		r.Data = api.Data{Host: "\x01x\x00", Mail: []api.Name{"\x01m\x00", "\x01M\x00"}[draws.Intn(2)], N: [5]uint32{uint32(draws.Intn(6) / 5)}}
	case api.TypeTXT:
		r.Data.Raw = "\x01a"
	}
	switch draws.Intn(150) {
	case 0:
		r.Class = 3
	case 1:
		r.TTL = 1 << 31
	case 2:
		r.Data.N[0] = 1 << 16
	case 3:
		r.Name = "e"
	}
	return r
}

// drawnList are some records, in any order, often with what a zone must have.
func drawnList(draws *rand.Rand, all []api.Name) []api.Record {
	var l []api.Record
	for range draws.Intn(8) {
		l = append(l, drawn(draws, all))
	}
	if draws.Intn(10) > 0 {
		l = append(l, api.Record{Name: "\x01e\x00", Type: api.TypeNS, Class: api.ClassIN, TTL: 1, Data: api.Data{Host: "\x01x\x00"}})
	}
	if draws.Intn(10) > 0 {
		l = append(l, api.Record{Name: "\x01E\x00", Type: api.TypeSOA, Class: api.ClassIN, TTL: 1, Data: api.Data{Host: "\x01x\x00", Mail: "\x01m\x00"}})
	}
	shuffle(draws, l)
	return l
}

// shuffle puts records into another order.
func shuffle(draws *rand.Rand, l []api.Record) {
	draws.Shuffle(len(l), func(i, k int) { l[i], l[k] = l[k], l[i] })
}

func TestAgainstTheWords(t *testing.T) { // P11.1, P11.2, P11.3, P11.4, P11.5, P11.7
	draws := rand.New(rand.NewSource(1))
	all := universe()
	met := map[api.Errno]int{}
	var last *Zone
	for range 20000 {
		l := drawnList(draws, all)
		place, want := faultOf("\x01e\x00", l)
		z, at, e := New("\x01E\x00", l)
		met[e]++
		if at != place || e != want || (z != nil) != (e == api.OK) {
			t.Fatalf("New(%v) = %d, %v, not %d, %v", l, at, e, place, want)
		}
		if e != api.OK {
			continue
		}
		records := recordsOf(l)
		if got := z.Records(); !slices.Equal(got, records) || z.Origin() != "\x01e\x00" {
			t.Fatalf("Records of %v: %v, not %v", l, got, records)
		}
		if same := last != nil && slices.Equal(last.Records(), records); z.Same(last) != same {
			t.Fatalf("%v and those ahead are not %v", records, same)
		}
		sound(t, z)
		for range 10 {
			agree(t, z, records, all[draws.Intn(len(all))])
		}
		for _, r := range records {
			agree(t, z, records, upper(r.Name))
			agree(t, z, records, "\x01q"+r.Name)
		}
		last = z
	}
	for _, e := range []api.Errno{api.OK, api.ErrOut, api.ErrClass, api.ErrType, api.ErrTTL, api.ErrData, api.ErrApex, api.ErrNS, api.ErrAlone, api.ErrBelow} {
		if met[e] < 50 {
			t.Errorf("%v was met %d times of 20000", e, met[e])
		}
	}
}

func TestOneZoneOrNone(t *testing.T) { // P11.6
	draws := rand.New(rand.NewSource(2))
	all := universe()
	for range 5000 {
		l := drawnList(draws, all)
		z, _, e := New("\x01e\x00", l)
		k := slices.Clone(l)
		for range draws.Intn(5) * len(l) {
			k = append(k, l[draws.Intn(len(l))])
		}
		for i, r := range k {
			if draws.Intn(2) == 0 {
				k[i] = loud(r)
			}
		}
		shuffle(draws, k)
		o, _, wrong := New("\x01E\x00", k)
		if (e == api.OK) != (wrong == api.OK) || e == api.OK && (!z.Same(o) || !o.Same(z)) {
			t.Fatalf("New(%v) is %v; in another order, more often, in capitals %v", l, e, wrong)
		}
		if e != api.OK {
			continue
		}
		if again, _, e := New(z.Origin(), z.Records()); e != api.OK || !z.Same(again) || !slices.Equal(z.Records(), again.Records()) {
			t.Fatalf("the Records of %v make no same zone: %v", l, e)
		}
	}
}

// FuzzNew makes zones of any texts: what is wrong with them, or what they tell, is held against the chapter's words.
func FuzzNew(f *testing.F) {
	f.Add("@ SOA ns m 1 2 3 4 5\n@ NS ns\nns 5 A 1.1.1.1\nNS 3 A 1.1.1.2\n", "\x01e\x00", uint8(0))
	f.Add("@ NS a\ns NS a.s\na.s A 1.1.1.1\n@ SOA ns m 1 2 3 4 5\ns TXT x\n", "\x00", uint8(3))
	f.Add("w CNAME a\nW CNAME A\n@ NS a\n@ SOA ns m 1 2 3 4 5\n@ SOA NS m 1 2 3 4 5\n", "\x01e\x00", uint8(9))
	f.Add("x.y TYPE99 \\# 0\n@ NS a\n@ SOA ns m 1 2 3 4 5\nf. A 1.1.1.1\n", "\x01E\x00", uint8(1))
	f.Fuzz(func(t *testing.T, text, o string, by uint8) {
		origin := api.Name(o)
		l, _, e := master.Parse(text, origin, 9)
		if e != api.OK || len(l) > 200 {
			return
		}
		for i := range l {
			if by > 0 && i%int(by) == 0 {
				l[i] = loud(l[i])
			}
		}
		z, at, e := New(origin, l)
		if place, want := faultOf(origin, l); at != place || e != want || (z != nil) != (e == api.OK) {
			t.Fatalf("New(%v) = %d, %v, not %d, %v", l, at, e, place, want)
		}
		if e != api.OK {
			return
		}
		records := recordsOf(l)
		if !slices.Equal(z.Records(), records) {
			t.Fatalf("Records = %v, not %v", z.Records(), records)
		}
		sound(t, z)
		for _, r := range records {
			agree(t, z, records, r.Name)
			if up, ok := name.Parent(r.Name); ok {
				agree(t, z, records, upper(up))
			}
		}
	})
}
