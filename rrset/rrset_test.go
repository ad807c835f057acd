package rrset

import (
	"math/rand"
	"slices"
	"strings"
	"testing"

	"hearsay/api"
	"hearsay/name"
	"hearsay/rdata"
)

// address is a record of type A.
func address(n api.Name, ttl uint32, raw string) api.Record {
	return api.Record{Name: n, Type: api.TypeA, Class: api.ClassIN, TTL: ttl, Data: api.Data{Raw: raw}}
}

// many are records of all sorts, several alike, in no order.
func many() []api.Record {
	var l []api.Record
	for _, row := range recordsInOrder() {
		l = append(l, row...)
	}
	l = append(l, l[:len(l)/2]...)
	for _, r := range slices.Clone(l) {
		r.TTL += 3
		l = append(l, r)
	}
	shuffle(l, 1)
	return l
}

// shuffle puts them into another order, the same one for the same seed.
func shuffle[T any](l []T, seed int64) {
	rand.New(rand.NewSource(seed)).Shuffle(len(l), func(i, k int) { l[i], l[k] = l[k], l[i] })
}

// roomy is a copy of l with room behind its end, in which something stands.
func roomy[T any](l []T, beyond T) []T {
	return append(append(make([]T, 0, len(l)+2), l...), beyond, beyond)[:len(l)]
}

// sameSets tells whether they are the same sets, in the same order.
func sameSets(a, b []api.Set) bool {
	return slices.EqualFunc(a, b, func(x, y api.Set) bool {
		return x.Key == y.Key && x.TTL == y.TTL && slices.Equal(x.Data, y.Data)
	})
}

func TestKeyOf(t *testing.T) { // P5.1
	for _, x := range []struct {
		r api.Record
		k api.Key
	}{
		{api.Record{}, api.Key{}},
		{address("\x01A\x00", 9, "\x01\x02\x03\x04"), api.Key{Name: "\x01a\x00", Type: 1, Class: 1}},
		{api.Record{Name: "\x03wWw\x01[\x00", Type: 65535, Class: 65534, TTL: 7}, api.Key{Name: "\x03www\x01[\x00", Type: 65535, Class: 65534}},
		{api.Record{Name: "NONE", Type: 2, Data: api.Data{Host: "\x01B\x00"}}, api.Key{Name: "none", Type: 2}},
		{api.Record{Name: api.Root, Class: 3}, api.Key{Name: api.Root, Class: 3}},
		{api.Record{Name: "\x02\xc0\xde\x00", Class: 3}, api.Key{Name: "\x02\xc0\xde\x00", Class: 3}},
	} {
		if k := KeyOf(x.r); k != x.k {
			t.Errorf("KeyOf(%#v) = %#v", x.r, k)
		}
	}
}

func TestFold(t *testing.T) { // P5.1
	const big, small = api.Name("\x01B\x02Cd\x00"), api.Name("\x01b\x02cd\x00")
	numbers := [5]uint32{1, 2, 3, 4, 1<<32 - 1}
	for _, x := range []struct {
		types      []uint16
		host, mail api.Name
	}{
		{[]uint16{2, 5, 12, 15, 33}, small, big},
		{[]uint16{6}, small, small},
		{[]uint16{0, 1, 16, 28, 41, 99, 252, 255, 65535}, big, big},
	} {
		for _, kind := range x.types {
			r := api.Record{Name: "\x01A\x00", Type: kind, Class: 7, TTL: 1<<32 - 1, Data: api.Data{Raw: "RaW", Host: big, Mail: big, N: numbers}}
			want := api.Record{Name: "\x01a\x00", Type: kind, Class: 7, TTL: 1<<32 - 1, Data: api.Data{Raw: "RaW", Host: x.host, Mail: x.mail, N: numbers}}
			if got := Fold(r); got != want {
				t.Errorf("Fold(%#v) = %#v", r, got)
			}
			if got := Fold(want); got != want {
				t.Errorf("Fold of Fold: %#v", got)
			}
			if got := Fold(r); got.Data != rdata.Fold(kind, r.Data) || got.Name != name.Fold(r.Name) || KeyOf(got) != KeyOf(r) {
				t.Errorf("Fold(%#v) = %#v", r, got)
			}
		}
	}
	if r := Fold(api.Record{Name: "A", Type: 2, Data: api.Data{Host: "\x01B"}}); r != (api.Record{Name: "a", Type: 2, Data: api.Data{Host: "\x01b"}}) {
		t.Errorf("Fold of what are no names: %#v", r)
	}
}

func TestSort(t *testing.T) { // P5.3
	var l, want []api.Record
	for i, row := range recordsInOrder() {
		for range 1 + i%3 {
			l = append(l, row...)
		}
		for range (1 + i%3) * len(row) {
			want = append(want, Fold(row[0]))
		}
	}
	if got := Sort(l); !slices.Equal(got, want) {
		t.Errorf("Sort = %#v", got)
	}
	if got := Sort(nil); len(got) != 0 {
		t.Errorf("Sort(nil) = %#v", got)
	}
	for seed := range int64(20) {
		shuffle(l, seed)
		if got := Sort(l); !slices.Equal(got, want) { // P5.6
			t.Fatalf("Sort after shuffle %d = %#v", seed, got)
		}
	}
	if got := Sort(Sort(l)); !slices.Equal(got, want) { // P5.6
		t.Errorf("Sort of Sort = %#v", got)
	}
	if got := Sort([]api.Record{address("\x01A\x00", 2, "aaaa"), address("\x01a\x00", 1, "aaaa")}); !slices.Equal(got, []api.Record{address("\x01a\x00", 1, "aaaa"), address("\x01a\x00", 2, "aaaa")}) {
		t.Errorf("Sort by TTLs = %#v", got)
	}
}

func TestSortHangsOnHowOften(t *testing.T) { // P5.3, P5.6
	x, y := address("\x01a\x00", 1, "aaaa"), address("\x01b\x00", 1, "aaaa")
	if slices.Equal(Sort([]api.Record{x, x, y}), Sort([]api.Record{x, y, y})) || len(Sort([]api.Record{x, x, x})) != 3 {
		t.Error("Sort forgets how often a record stands there")
	}
}

func TestSets(t *testing.T) { // P5.4
	got := Sets([]api.Record{
		address("\x01a\x00", 9, "2222"),
		address("\x01A\x00", 5, "1111"),
		address("\x01a\x00", 7, "2222"),
		{Name: "\x01a\x00", Type: 2, Class: 1, TTL: 1, Data: api.Data{Host: "\x01b\x00"}},
	})
	if want := []api.Set{
		{Key: api.Key{Name: "\x01a\x00", Type: 1, Class: 1}, TTL: 5, Data: []api.Data{{Raw: "1111"}, {Raw: "2222"}}},
		{Key: api.Key{Name: "\x01a\x00", Type: 2, Class: 1}, TTL: 1, Data: []api.Data{{Host: "\x01b\x00"}}},
	}; !sameSets(got, want) {
		t.Errorf("Sets = %#v", got)
	}
	if got := Sets(nil); len(got) != 0 {
		t.Errorf("Sets(nil) = %#v", got)
	}
	if got := Sets([]api.Record{{}}); !sameSets(got, []api.Set{{Data: []api.Data{{}}}}) {
		t.Errorf("Sets of a record of zeros = %#v", got)
	}
}

func TestSetsData(t *testing.T) { // P5.4
	key := func(kind uint16) api.Key { return api.Key{Name: "\x01a\x00", Type: kind, Class: 1} }
	record := func(kind uint16, ttl uint32, d api.Data) api.Record {
		return api.Record{Name: "\x01A\x00", Type: kind, Class: 1, TTL: ttl, Data: d}
	}
	got := Sets([]api.Record{
		record(15, 1<<32-1, api.Data{N: [5]uint32{5}, Host: "\x01B\x00"}),
		record(99, 3, api.Data{Host: "\x01b\x00"}),
		record(15, 1<<31, api.Data{N: [5]uint32{4}, Host: "\x01c\x00"}),
		record(99, 0, api.Data{Host: "\x01B\x00"}), // TYPE99 has no Host: two data
		record(15, 1<<31+1, api.Data{N: [5]uint32{5}, Host: "\x01b\x00"}),
		record(15, 1<<32-2, api.Data{N: [5]uint32{6}, Host: "\x01b\x00"}),
		record(16, 8, api.Data{Raw: "\x01b"}),
		record(16, 8, api.Data{Raw: "\x01B"}),
	})
	if want := []api.Set{
		{Key: key(15), TTL: 1 << 31, Data: []api.Data{{N: [5]uint32{5}, Host: "\x01b\x00"}, {N: [5]uint32{6}, Host: "\x01b\x00"}, {N: [5]uint32{4}, Host: "\x01c\x00"}}},
		{Key: key(16), TTL: 8, Data: []api.Data{{Raw: "\x01B"}, {Raw: "\x01b"}}},
		{Key: key(99), TTL: 0, Data: []api.Data{{Host: "\x01B\x00"}, {Host: "\x01b\x00"}}},
	}; !sameSets(got, want) {
		t.Errorf("Sets = %#v", got)
	}
}

func TestSetsKeys(t *testing.T) { // P5.4
	var l []api.Record
	var want []api.Key
	for i, k := range keysInOrder() {
		r := api.Record{Name: k.Name, Type: k.Type, Class: k.Class, TTL: uint32(i)}
		l = append(l, r)
		if k == KeyOf(r) {
			want = append(want, k)
		}
	}
	shuffle(l, 2)
	got := Sets(l)
	if len(got) != len(want) {
		t.Fatalf("%d sets of %d keys", len(got), len(want))
	}
	for i, s := range got {
		least := Least(slices.DeleteFunc(slices.Clone(l), func(r api.Record) bool { return KeyOf(r) != s.Key }))
		if s.Key != want[i] || len(s.Data) != 1 || s.TTL != least {
			t.Errorf("set %d = %#v, not of %#v, %d", i, s, want[i], least)
		}
	}
}

func TestRecords(t *testing.T) { // P5.4
	s := api.Set{Key: api.Key{Name: "\x01A\x00", Type: 2, Class: 9}, TTL: 1<<32 - 1, Data: []api.Data{{Host: "\x01C\x00"}, {Host: "\x01b\x00"}, {Host: "\x01C\x00"}, {Raw: "x", Mail: "Y", N: [5]uint32{4}}}}
	got := Records(s)
	if len(got) != len(s.Data) {
		t.Fatalf("Records = %#v", got)
	}
	for i, r := range got {
		if r != (api.Record{Name: "\x01A\x00", Type: 2, Class: 9, TTL: 1<<32 - 1, Data: s.Data[i]}) {
			t.Errorf("record %d = %#v", i, r)
		}
	}
	if got := Records(api.Set{Key: s.Key, TTL: 5}); len(got) != 0 {
		t.Errorf("Records without data = %#v", got)
	}
}

func TestLeast(t *testing.T) { // P5.5
	for _, x := range []struct {
		ttls []uint32
		want uint32
	}{
		{nil, 0}, {[]uint32{5, 3, 9}, 3}, {[]uint32{3, 5}, 3}, {[]uint32{9, 5, 3}, 3}, {[]uint32{7}, 7}, {[]uint32{4, 0, 4}, 0},
		{[]uint32{1<<32 - 1}, 1<<32 - 1}, {[]uint32{1<<32 - 1, 1 << 31}, 1 << 31}, {[]uint32{1<<31 - 1, 1 << 31}, 1<<31 - 1},
	} {
		var l []api.Record
		for i, ttl := range x.ttls {
			l = append(l, api.Record{Name: namesInOrder()[i], TTL: ttl})
		}
		if got := Least(l); got != x.want {
			t.Errorf("Least of %v = %d", x.ttls, got)
		}
	}
}

// lists are lists of records; those of one row are the same, those of different ones are not.
func lists() [][][]api.Record {
	x, big := address("\x01a\x00", 9, "1111"), address("\x01A\x00", 3, "1111")
	y := address("\x01a\x00", 9, "2222")
	other := x
	other.Class = 3
	kind := x
	kind.Type = 16
	ns := api.Record{Name: "\x01a\x00", Type: 2, Class: 1, Data: api.Data{Host: "\x01b\x00"}}
	bigNS := api.Record{Name: "\x01A\x00", Type: 2, Class: 1, TTL: 8, Data: api.Data{Host: "\x01B\x00"}}
	return [][][]api.Record{
		{nil, {}},
		{{x}, {big}, {x, x}, {x, big, x}},
		{{y}},
		{{x, y}, {y, big}, {y, y, big}, {x, y, x, y}},
		{{other}},
		{{kind}},
		{{other, x}, {big, other, x}},
		{{address("\x01b\x00", 9, "1111")}},
		{{ns}, {bigNS}, {ns, bigNS}},
		{{ns, x}, {big, bigNS}},
		{{ns, x, y}, {y, big, bigNS, y}},
		{{{Name: "\x01a\x00", Type: 99, Class: 1, Data: api.Data{Host: "\x01b\x00"}}}},
		{{{Name: "\x01a\x00", Type: 99, Class: 1, Data: api.Data{Host: "\x01B\x00"}}}},
		{{{Name: "a", Type: 2, Data: api.Data{Host: "b"}}}, {{Name: "A", Type: 2, TTL: 1, Data: api.Data{Host: "B"}}}},
		{{{}}, {{TTL: 5}, {}}},
	}
}

func TestSame(t *testing.T) { // P5.5, P5.7
	for i, row := range lists() {
		for k, column := range lists() {
			for _, a := range row {
				for _, b := range column {
					if got := Same(a, b); got != (i == k) {
						t.Errorf("Same(%#v, %#v) = %v", a, b, got)
					}
				}
			}
		}
	}
}

func TestSameIsAnEquivalence(t *testing.T) { // P5.5, P5.7
	l := many()
	again := slices.Clone(l)
	shuffle(again, 3)
	for i := range again {
		again[i].TTL++
		again[i].Name = api.Name(strings.ToUpper(string(again[i].Name)))
	}
	if !Same(l, l) || !Same(l, again) || !Same(again, l) || !Same(again, Sort(l)) || !Same(l, Sort(again)) {
		t.Error("the same records are not Same")
	}
	for _, s := range Sets(l) {
		without := slices.DeleteFunc(slices.Clone(l), func(r api.Record) bool {
			return KeyOf(r) == s.Key && Fold(r).Data == s.Data[0]
		})
		if Same(l, without) || Same(without, l) {
			t.Errorf("Same without a record of %#v", s.Key)
		}
	}
}

func TestSetsHangOnTheRecords(t *testing.T) { // P5.7
	l := many()
	want := Sets(l)
	for seed := range int64(20) {
		shuffle(l, seed)
		if got := Sets(append(l[:len(l):len(l)], l[:seed]...)); !sameSets(got, want) {
			t.Fatalf("Sets after shuffle %d = %#v", seed, got)
		}
	}
	if got := Sets(Sort(l)); !sameSets(got, want) {
		t.Errorf("Sets of Sort = %#v", got)
	}
}

func TestSetsOfRecords(t *testing.T) { // P5.7
	want := Sets(many())
	var l []api.Record
	for _, s := range want {
		l = append(l, Records(s)...)
	}
	if got := Sets(l); !sameSets(got, want) {
		t.Errorf("Sets of the Records = %#v", got)
	}
	if !Same(l, many()) {
		t.Error("the Records of the Sets are not the same records")
	}
	slices.Reverse(l)
	if got := Sets(l); !sameSets(got, want) {
		t.Errorf("Sets of the Records, turned round = %#v", got)
	}
}

func TestNothingHandedInIsChanged(t *testing.T) { // R3, of P5.3 to P5.5
	beyond := address("\x01X\x00", 1, "beyond")
	l := roomy(many(), beyond)
	before := slices.Clone(l[:cap(l)])
	Sort(l)
	Sets(l)
	Same(l, l[:3])
	Least(l)
	if !slices.Equal(l[:cap(l)], before) {
		t.Error("a list of records was changed")
	}
	s := api.Set{Data: roomy([]api.Data{{Raw: "b"}, {Raw: "a"}}, api.Data{Raw: "beyond"})}
	data := slices.Clone(s.Data[:cap(s.Data)])
	Records(s)
	if !slices.Equal(s.Data[:cap(s.Data)], data) {
		t.Error("a set's data were changed")
	}
}

func TestNothingHandedOutIsShared(t *testing.T) { // R3, of P5.3 and P5.4
	l := Sort(many())
	before := slices.Clone(l)
	for _, out := range [][]api.Record{Sort(l), Records(Sets(l)[0])} {
		clear(out[:cap(out)])
	}
	if !slices.Equal(l, before) {
		t.Error("an answer shares memory with its argument")
	}
	want, got := Sets(l), Sets(l)
	for i := range got {
		d := got[i].Data[:cap(got[i].Data)]
		for k := range d {
			d[k] = api.Data{Raw: "written"}
		}
		for k := i + 1; k < len(got); k++ {
			if !slices.Equal(got[k].Data, want[k].Data) {
				t.Fatalf("the sets %d and %d share data", i, k)
			}
		}
	}
	if !sameSets(Sets(l), want) || !slices.Equal(l, before) {
		t.Error("what is written into an answer is seen later")
	}
}

// alike tells whether records are alike, as the chapter says it.
func alike(a, b api.Record) bool {
	return KeyOf(a) == KeyOf(b) && rdata.Fold(a.Type, a.Data) == rdata.Fold(b.Type, b.Data)
}

// covers tells whether each record of a is alike one of b.
func covers(a, b []api.Record) bool {
	return !slices.ContainsFunc(a, func(x api.Record) bool {
		return !slices.ContainsFunc(b, func(y api.Record) bool { return alike(x, y) })
	})
}

// recordsOf are records that bytes tell, six bytes each, of few names and types.
func recordsOf(b []byte) []api.Record {
	names := namesInOrder()
	types := []uint16{1, 2, 6, 15, 33, 99}
	var l []api.Record
	for ; len(b) >= 6 && len(l) < 40; b = b[6:] {
		pick := func(i int) api.Name { return names[int(b[i])%len(names)] }
		d := api.Data{Raw: strings.Repeat("x", int(b[3])%3), Host: pick(4), Mail: pick(5), N: [5]uint32{uint32(b[3] >> 6)}}
		l = append(l, api.Record{Name: pick(0), Type: types[int(b[1])%len(types)], Class: uint16(b[1] >> 7), TTL: uint32(b[2] % 4), Data: d})
	}
	return l
}

// checkSets tells whether sets are as the chapter says of the records.
func checkSets(t *testing.T, l []api.Record, sets []api.Set) {
	t.Helper()
	var all []api.Record
	for i, s := range sets {
		own := slices.DeleteFunc(slices.Clone(l), func(r api.Record) bool { return KeyOf(r) != s.Key })
		if len(own) == 0 || s.TTL != slices.MinFunc(own, func(a, b api.Record) int { return int(a.TTL) - int(b.TTL) }).TTL {
			t.Errorf("TTL of %#v", s)
		}
		if i > 0 && CmpKey(sets[i-1].Key, s.Key) != -1 {
			t.Errorf("%#v is not ahead of %#v", sets[i-1].Key, s.Key)
		}
		for k := 1; k < len(s.Data); k++ {
			if CmpData(s.Data[k-1], s.Data[k]) != -1 {
				t.Errorf("%#v is not ahead of %#v", s.Data[k-1], s.Data[k])
			}
		}
		all = append(all, Records(s)...)
	}
	if !covers(l, all) || !covers(all, l) || !slices.Equal(all, folded(all)) {
		t.Errorf("Sets(%#v) = %#v", l, sets)
	}
	if !sameSets(Sets(all), sets) {
		t.Errorf("Sets of the Records of %#v", sets)
	}
}

// FuzzSets makes records of any bytes, two lists of them.
func FuzzSets(f *testing.F) { // P5.2 to P5.7
	f.Add([]byte("abcdefghijklmnopqrstuvwxyz0123456789"), []byte("ABCDEFGHIJKLMNOPQRSTUVWXYZ9876543210"))
	f.Add([]byte{4, 1, 1, 0, 4, 5, 5, 1, 2, 0, 5, 5}, []byte{5, 1, 3, 0, 4, 5})
	f.Fuzz(func(t *testing.T, a, b []byte) {
		l, other := recordsOf(a), recordsOf(b)
		checkSets(t, l, Sets(l))
		if got := Same(l, other); got != (covers(l, other) && covers(other, l)) || got != Same(other, l) {
			t.Errorf("Same(%#v, %#v) = %v", l, other, got)
		}
		sorted := Sort(l)
		want := folded(l)
		slices.SortStableFunc(want, Cmp)
		if !slices.Equal(sorted, want) {
			t.Errorf("Sort(%#v) = %#v", l, sorted)
		}
		for _, x := range l {
			for _, y := range other {
				if Cmp(x, y) != -Cmp(y, x) || (Cmp(x, y) == 0) != (Fold(x) == Fold(y)) {
					t.Errorf("Cmp(%#v, %#v) = %d", x, y, Cmp(x, y))
				}
			}
		}
	})
}
