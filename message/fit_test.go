package message

import (
	"math"
	"slices"
	"strconv"
	"strings"
	"testing"

	"hearsay/api"
	"hearsay/rrset"
)

// shorter is a message without its last group, and whether there was one to take away. It goes the plain way, to hold Fit against.
func shorter(m api.Message) (api.Message, bool) {
	for i, part := range []*[]api.Record{&m.Extra, &m.Authority, &m.Answer} {
		var keys []api.Key
		for _, r := range *part {
			if key := rrset.KeyOf(r); !slices.Contains(keys, key) && (i > 0 || r.Type != api.TypeOPT) {
				keys = append(keys, key)
			}
		}
		if len(keys) == 0 {
			continue
		}
		gone := keys[len(keys)-1]
		*part = slices.DeleteFunc(slices.Clone(*part), func(r api.Record) bool { return rrset.KeyOf(r) == gone })
		m.TC = true
		return m, true
	}
	return m, false
}

// fits is Fit, group by group.
func fits(m api.Message, size int) (api.Message, bool, api.Errno) {
	for cut := false; ; cut = true {
		if len(wrote(m)) <= min(size, 65535) {
			return m, cut, api.OK
		}
		next, any := shorter(m)
		if !any {
			return api.Message{}, false, api.ErrFull
		}
		m = next
	}
}

// fit asks Fit and holds it against fits.
func fit(t *testing.T, what string, m api.Message, size int) api.Message {
	t.Helper()
	x, gone, e := Fit(m, size)
	want, cut, late := fits(m, size)
	if e != late || gone != cut || !same(x, want) {
		t.Errorf("%s: Fit(.., %d) = %d, %d, %d records, TC %v, %v, %v, not %d, %d, %d, %v, %v", what, size,
			len(x.Answer), len(x.Authority), len(x.Extra), x.TC, gone, e, len(want.Answer), len(want.Authority), len(want.Extra), cut, late)
	}
	return x
}

// numbered are so many names.
func numbered(n int, back string) []api.Name {
	l := make([]api.Name, n)
	for i := range l {
		label := back[:1] + strconv.Itoa(i)
		l[i] = api.Name(string([]byte{byte(len(label))}) + label + string([]byte{byte(len(back))}) + back + "\x00")
	}
	return l
}

func TestFit(t *testing.T) { // P6.4
	m := question()
	m.Answer = []api.Record{address(na, "1111"), address(nb, "1111"), address(nA, "2222"), address(nb, "2222"), address(na, "3333"), address(nb, "3333")}
	whole := len(wrote(m))
	if whole != 19+16+17+17+16+16+16 {
		t.Fatalf("%d bytes", whole)
	}
	for _, x := range []struct {
		size, answers int
		gone          bool
		e             api.Errno
	}{
		{whole, 6, false, api.OK}, {whole + 1, 6, false, api.OK}, {65535, 6, false, api.OK}, {65536, 6, false, api.OK}, {math.MaxInt, 6, false, api.OK},
		{whole - 1, 3, true, api.OK}, {19 + 49, 3, true, api.OK}, {19 + 48, 0, true, api.OK}, {19, 0, true, api.OK},
		{18, 0, false, api.ErrFull}, {12, 0, false, api.ErrFull}, {0, 0, false, api.ErrFull}, {-1, 0, false, api.ErrFull}, {math.MinInt, 0, false, api.ErrFull},
	} {
		y, gone, e := Fit(m, x.size)
		if e != x.e || gone != x.gone || y.TC != x.gone || len(y.Answer) != x.answers {
			t.Errorf("Fit(.., %d) = %v, %v, %v", x.size, y, gone, e)
		}
		if x.answers == 3 && !slices.Equal(y.Answer, []api.Record{m.Answer[0], m.Answer[2], m.Answer[4]}) {
			t.Errorf("Fit(.., %d) = %v", x.size, y.Answer)
		}
		if e == api.OK && (!slices.Equal(y.Questions, m.Questions) || y.ID != 1 || !y.RD) || e != api.OK && !empty(y) {
			t.Errorf("Fit(.., %d) = %v", x.size, y)
		}
	}
}

func TestFitWithoutGroups(t *testing.T) { // P6.4
	opt := api.Message{Extra: []api.Record{{Name: api.Root, Type: api.TypeOPT}, {Name: na, Type: api.TypeOPT, Data: api.Data{Raw: "x"}}}}
	for _, m := range []api.Message{{}, question(), opt, {TC: true}} {
		whole := len(wrote(m))
		for _, size := range []int{whole, whole + 1, math.MaxInt} {
			if x, gone, e := Fit(m, size); e != api.OK || gone || !same(x, m) {
				t.Errorf("Fit(%v, %d) = %v, %v, %v", m, size, x, gone, e)
			}
		}
		for _, size := range []int{whole - 1, 11, 0, -1, math.MinInt} {
			if x, gone, e := Fit(m, size); e != api.ErrFull || gone || !empty(x) {
				t.Errorf("Fit(%v, %d) = %v, %v, %v", m, size, x, gone, e)
			}
		}
	}
}

func TestFitParts(t *testing.T) { // P6.4, P6.6
	// Each group has a letter; a class of its own keeps groups of one name apart.
	rec := func(n api.Name, kind, class uint16, raw string) api.Record {
		return api.Record{Name: n, Type: kind, Class: class, Data: api.Data{Raw: raw}}
	}
	m := api.Message{
		Answer:    []api.Record{rec(na, 1, 1, "1111"), rec(api.Root, api.TypeOPT, 1, "a"), rec(na, 1, 2, "1111"), rec(nA, 1, 1, "2222")},
		Authority: []api.Record{rec(na, other, 1, ""), rec(na, 1, 1, "1111"), rec(api.Root, api.TypeOPT, 1, "b")},
		Extra:     []api.Record{rec(api.Root, api.TypeOPT, 1, "c"), rec(na, 1, 1, "1111"), rec(nb, api.TypeOPT, 7, "d"), rec(nb, 1, 1, "1111"), rec(nA, 1, 1, "2222"), rec(api.Root, api.TypeOPT, 1, "e")},
	}
	want := []struct{ answer, authority, extra string }{
		{"0123", "012", "012345"}, {"0123", "012", "01245"}, {"0123", "012", "025"},
		{"0123", "01", "025"}, {"0123", "0", "025"}, {"0123", "", "025"},
		{"013", "", "025"}, {"03", "", "025"}, {"", "", "025"},
	}
	chosen := func(l []api.Record, places string) []api.Record {
		var out []api.Record
		for _, c := range places {
			out = append(out, l[c-'0'])
		}
		return out
	}
	size := math.MaxInt
	for i, w := range want {
		x, gone, e := Fit(m, size)
		y := api.Message{TC: i > 0, Answer: chosen(m.Answer, w.answer), Authority: chosen(m.Authority, w.authority), Extra: chosen(m.Extra, w.extra)}
		if e != api.OK || gone != (i > 0) || !same(x, y) {
			t.Errorf("%d: Fit(.., %d) = %v, %v, %v", i, size, x, gone, e)
		}
		b, e := Pack(x)
		if e != api.OK || len(b) > size {
			t.Errorf("%d: %d bytes, %v", i, len(b), e)
		}
		size = len(b) - 1
	}
	if x, gone, e := Fit(m, size); e != api.ErrFull || gone || !empty(x) {
		t.Errorf("Fit(.., %d) = %v, %v, %v", size, x, gone, e)
	}
}

func TestFitKeepsTC(t *testing.T) { // P6.4, P6.6
	m := full()
	m.TC = true
	for _, size := range []int{len(wrote(m)), len(wrote(m)) - 1} {
		if x, gone, e := Fit(m, size); e != api.OK || !x.TC || gone != (size < len(wrote(m))) || !heads(x, m) {
			t.Errorf("Fit(.., %d) = %v, %v, %v", size, x, gone, e)
		}
	}
}

func TestFitOfManyBytes(t *testing.T) { // P6.4
	// More than 65535 bytes are no error, but no message that is left has so many.
	m := api.Message{Answer: []api.Record{filler(30000), address(na, "1234"), address(nb, "1234")}, Extra: []api.Record{filler(30000), filler(30000)}}
	for _, size := range []int{65535, 65536, 90045, 90046, 90047, math.MaxInt} {
		if x, gone, e := Fit(m, size); e != api.OK || !gone || !x.TC || len(x.Answer) != 3 || len(x.Extra) != 0 {
			t.Errorf("Fit(.., %d) = %d, %d records, %v, %v", size, len(x.Answer), len(x.Extra), gone, e)
		}
	}
	for _, bytes := range []int{65534, 65535, 65536} {
		m := api.Message{Answer: []api.Record{address(na, "1234")}, Authority: []api.Record{filler(bytes - 12 - 17)}}
		if x, gone, e := Fit(m, math.MaxInt); e != api.OK || gone != (bytes > 65535) || len(x.Answer) != 1 {
			t.Errorf("Fit of %d bytes: %v, %v", bytes, gone, e)
		}
	}
	opts := api.Message{Extra: slices.Repeat([]api.Record{{Name: api.Root, Type: api.TypeOPT, Data: api.Data{Raw: strings.Repeat("x", 40000)}}}, 2)}
	if x, gone, e := Fit(opts, math.MaxInt); e != api.ErrFull || gone || !empty(x) {
		t.Errorf("Fit of long OPTs: %v, %v", gone, e)
	}
	huge := api.Message{Extra: slices.Repeat([]api.Record{filler(65546)}, 4096), Answer: []api.Record{address(na, "1234")}}
	if x, gone, e := Fit(huge, math.MaxInt); e != api.OK || !gone || len(x.Answer) != 1 || len(x.Extra) != 0 {
		t.Errorf("Fit of a huge message: %v, %v", gone, e)
	}
}

func TestFitDrawn(t *testing.T) { // P6.4, P6.6
	for seed := range int64(80) {
		m := drawn(seed)
		whole := len(wrote(m))
		for _, size := range []int{whole, whole - 1, whole * 3 / 4, whole / 2, 16384, 512, whole / 7, 12} {
			x := fit(t, strconv.Itoa(int(seed)), m, size)
			if b, e := Pack(x); e != api.OK || len(b) > max(size, 12) {
				t.Errorf("%d: Fit(.., %d) has %d bytes, %v", seed, size, len(b), e)
			}
		}
	}
}

func TestFitWhereShorterIsLonger(t *testing.T) { // P6.4
	// A long name is told first by a group that goes. Others point to it, from places to which no pointer leads: without the group each of them tells the name whole, so that the message becomes longer.
	long := api.Name(strings.Repeat("\x3f"+strings.Repeat("m", 63), 3) + "\x00")
	ns := func(n, host api.Name) api.Record { return typed(n, api.TypeNS, api.Data{Host: host}) }
	for _, bulk := range []int{15000, 16000, 16300, 17000} {
		m := api.Message{Answer: []api.Record{ns(na, na), ns(nb, long), filler(bulk)}}
		for range 20 {
			m.Answer = append(m.Answer, ns(na, long), ns(na, nb))
		}
		m.Authority = []api.Record{address(nab, "1234"), address(na, "1234")}
		sizes := []int{}
		for x, any := m, true; any; x, any = shorter(x) {
			n := len(wrote(x))
			sizes = append(sizes, n-1, n, n+1)
		}
		slices.Sort(sizes)
		for _, size := range sizes {
			fit(t, "bulk "+strconv.Itoa(bulk), m, size)
		}
		m.Extra = []api.Record{{Name: long, Type: api.TypeOPT}, {Name: api.Root, Type: api.TypeOPT, Data: api.Data{Raw: "x"}}}
		for _, size := range sizes {
			fit(t, "with OPTs, bulk "+strconv.Itoa(bulk), m, size+200)
		}
	}
}

func TestFitBesidePointers(t *testing.T) { // P6.4
	// What stands behind the group that goes is as short as it is, wherever its pointers are.
	long := api.Name("\x3f" + strings.Repeat("m", 63) + "\x00")
	for _, r := range []api.Record{address(long, "1234"), typed(na, api.TypeNS, api.Data{Host: long}), typed(na, api.TypeSOA, api.Data{Host: na, Mail: long}), typed(long, api.TypeSOA, api.Data{Host: long, Mail: long}), typed(na, api.TypeSRV, api.Data{Host: long}), typed(api.Root, api.TypeNS, api.Data{Host: api.Root}), typed(api.Root, api.TypeSOA, api.Data{Host: api.Root, Mail: api.Root})} {
		m := api.Message{Answer: []api.Record{r, address(nb, "1234"), r, address(nab, "1234"), r}}
		for size := range len(wrote(m)) + 2 {
			fit(t, "pointers", m, size)
		}
	}
}

func TestFitAtTheEndOfPointers(t *testing.T) { // P6.4
	// What begins at 16383 is pointed to, what begins at 16384 is not.
	for place := 16380; place <= 16388; place++ {
		m := api.Message{Answer: []api.Record{filler(place - 12), address(nb, "1111"), address(nab, "1111"), typed(api.Root, other, api.Data{Raw: "y"}), typed(na, api.TypeNS, api.Data{Host: nab}), address(nb, "2222"), address(nab, "2222")}}
		m.Extra = []api.Record{{Name: nab, Type: api.TypeOPT}}
		for size := 16380; size < len(wrote(m))+2; size++ {
			fit(t, "place "+strconv.Itoa(place), m, size)
		}
	}
}

// TestFitOfManyGroups looks whether a message of as many groups as there can be, interleaved, is cut in time: group by group, each time all written anew, it would not be.
func TestFitOfManyGroups(t *testing.T) { // P6.4, P6.6
	names := numbered(4096, "zone")
	var m api.Message
	for i, n := range names {
		m.Answer = append(m.Answer, address(names[i%2048], strconv.Itoa(1000+i%9000)))
		m.Authority = append(m.Authority, typed(n, api.TypeNS, api.Data{Host: names[4095-i]}))
		m.Extra = append(m.Extra, address(n, "1234"))
	}
	for i := range 100 {
		m.Extra[i*40] = api.Record{Name: api.Root, Type: api.TypeOPT, Data: api.Data{Raw: strings.Repeat("o", i)}}
	}
	for _, size := range []int{7000, 16000, 30000, 65535, math.MaxInt} {
		x, gone, e := Fit(m, size)
		b, late := Pack(x)
		if e != api.OK || !gone || !x.TC || late != api.OK || len(b) > size || len(x.Authority) != 0 || len(x.Extra) != 100 {
			t.Fatalf("Fit(.., %d): %d bytes, %v, %v, %v", size, len(b), gone, e, late)
		}
		// With one group more it is too long.
		groups := len(rrset.Sets(x.Answer))
		more := x
		more.Answer = slices.DeleteFunc(slices.Clone(m.Answer), func(r api.Record) bool {
			return slices.Index(names, r.Name) > groups
		})
		if n := len(wrote(more)); groups == 2048 || n <= min(size, 65535) {
			t.Errorf("Fit(.., %d) has %d groups; with one more it has %d bytes", size, groups, n)
		}
	}
}

func TestFitHasItsOwnMemory(t *testing.T) { // P6.4
	for _, size := range []int{1000, 150} {
		m, questions, l := roomy(full())
		q, r := slices.Clone(questions), slices.Clone(l)
		first, _, _ := Fit(m, size)
		second, _, e := Fit(m, size)
		want, _, _ := fits(full(), size)
		for _, part := range parts(&first) {
			clear((*part)[:cap(*part)])
		}
		clear(first.Questions[:cap(first.Questions)])
		if !slices.Equal(questions, q) || !slices.Equal(l, r) {
			t.Errorf("Fit(.., %d) changed what it was handed, or handed it out", size)
		}
		clear(questions)
		clear(l)
		writeBehind(second)
		if e != api.OK || !same(second, want) {
			t.Errorf("Fit(.., %d): the answer shares memory: %v, %v", size, second, e)
		}
	}
}
