package cache

import (
	"math"
	"slices"
	"strconv"
	"strings"
	"testing"

	"hearsay/api"
	"hearsay/name"
)

// noNames are bytes that are no names.
var noNames = []api.Name{
	"", "e", "e.", "\x01", "\x01e", "\x02e\x00", "\x00\x00", "\x01e\x00\x00", "\x01a\x00\x01e\x00", "\xc0\x00",
	api.Name("\x40" + strings.Repeat("a", 64) + "\x00"), "\x01a" + longest, api.Name(strings.Repeat("\x3f", 70000)),
}

// longest is a name of 255 bytes in 127 labels.
var longest = api.Name(strings.Repeat("\x01a", 127) + "\x00")

// ask is a question for an address of a name of one label.
func ask(label string) api.Question {
	return api.Question{Name: api.Name([]byte{byte(len(label))}) + api.Name(label) + "\x00", Type: api.TypeA, Class: api.ClassIN}
}

// addresses are records by their TTLs.
func addresses(ttl ...uint32) []api.Record {
	var l []api.Record
	for i, n := range ttl {
		l = append(l, api.Record{Name: "\x01W\x00", Type: api.TypeA, Class: api.ClassIN, TTL: n, Data: api.Data{Raw: string([]byte{1, 1, 1, byte(i)})}})
	}
	return l
}

// soa is one by its TTL and its MINIMUM.
func soa(ttl, minimum uint32) api.Record {
	return api.Record{
		Name: "\x01E\x00", Type: api.TypeSOA, Class: api.ClassIN, TTL: ttl,
		Data: api.Data{Host: "\x02NS\x00", Mail: "\x01M\x00", N: [5]uint32{9, 8, 7, 6, minimum}},
	}
}

// positive is an answer of addresses.
func positive(ttl ...uint32) api.Answer { return api.Answer{AA: true, Answer: addresses(ttl...)} }

// made is a cache with room for so many.
func made(t testing.TB, entries int) *Cache {
	t.Helper()
	c, e := New(entries)
	if e != api.OK || c == nil || c.Len() != 0 || len(c.Keys()) != 0 {
		t.Fatalf("New(%d) = %v, %v", entries, c, e)
	}
	return c
}

// put puts what must be kept.
func put(t testing.TB, c *Cache, q api.Question, a api.Answer, now int) {
	t.Helper()
	if !c.Put(q, a, now) {
		t.Fatalf("Put(%v, %v, %d) is refused", q, a, now)
	}
}

// same tells whether two answers are the same.
func same(a, b api.Answer) bool {
	return a.Rcode == b.Rcode && a.AA == b.AA && slices.Equal(a.Answer, b.Answer) &&
		slices.Equal(a.Authority, b.Authority) && slices.Equal(a.Extra, b.Extra)
}

// ttls are those of an answer.
func ttls(a api.Answer) []uint32 {
	var l []uint32
	for _, r := range slices.Concat(a.Answer, a.Authority, a.Extra) {
		l = append(l, r.TTL)
	}
	return l
}

// tells asks a cache, and holds the TTLs of what is told against those that should be.
func tells(t testing.TB, c *Cache, q api.Question, now int, want ...uint32) {
	t.Helper()
	a, ok := c.Get(q, now)
	if !ok || a.AA || !slices.Equal(ttls(a), want) {
		t.Errorf("Get(%v, %d) = %v, %v, not %v", q, now, a, ok, want)
	}
}

// silent asks a cache for what it must not have.
func silent(t testing.TB, c *Cache, q api.Question, now int) {
	t.Helper()
	if a, ok := c.Get(q, now); ok || !same(a, api.Answer{}) {
		t.Errorf("Get(%v, %d) = %v, %v", q, now, a, ok)
	}
}

// rowed holds a cache's row against the one that it should be.
func rowed(t testing.TB, c *Cache, want ...api.Question) {
	t.Helper()
	if keys := c.Keys(); !slices.Equal(keys, want) || c.Len() != len(want) {
		t.Errorf("Keys = %.400s, Len = %d, not %d as %.400s", text(keys), c.Len(), len(want), text(want))
	}
}

// text is what a list of keys looks like.
func text(keys []api.Question) string {
	var s strings.Builder
	for _, k := range keys {
		s.WriteString(name.Text(k.Name) + " " + strconv.Itoa(int(k.Type)) + " " + strconv.Itoa(int(k.Class)) + "; ")
	}
	return s.String()
}

func TestExamples(t *testing.T) { // P14.1, P14.2, P14.3, P14.4
	c := made(t, 9)
	put(t, c, ask("a"), positive(30, 5), 100)
	tells(t, c, ask("a"), 100, 30, 5)
	tells(t, c, ask("a"), 109, 30, 5)
	tells(t, c, ask("a"), 110, 29, 4)
	tells(t, c, ask("a"), 149, 26, 1)
	silent(t, c, ask("a"), 150)
	rowed(t, c)

	put(t, c, ask("n"), api.Answer{Rcode: api.NXDomain, Authority: []api.Record{soa(60, 7)}}, 0)
	tells(t, c, ask("n"), 69, 54)
	silent(t, c, ask("n"), 70)
	for _, a := range []api.Answer{{Rcode: api.ServFail}, {}, positive(0), positive(1 << 31)} {
		refused(t, c, ask("x"), a, 70)
	}

	c = made(t, 2)
	put(t, c, ask("a"), positive(9), 0)
	put(t, c, ask("b"), positive(9), 0)
	tells(t, c, ask("a"), 0, 9)
	put(t, c, ask("c"), positive(9), 0)
	rowed(t, c, ask("a"), ask("c"))
}

// refused puts what must not be kept.
func refused(t testing.TB, c *Cache, q api.Question, a api.Answer, now int) {
	t.Helper()
	before := c.Keys()
	if c.Put(q, a, now) {
		t.Errorf("Put(%v, %v, %d) is kept", q, a, now)
	}
	rowed(t, c, before...)
}

func TestNew(t *testing.T) { // P14.1
	for _, n := range []int{math.MinInt, -4096, -1, 0, 4097, 8192, 1 << 32, 1<<32 + 1, math.MaxInt} {
		if c, e := New(n); c != nil || e != api.ErrArg {
			t.Errorf("New(%d) = %v, %v", n, c, e)
		}
	}
	for _, n := range []int{1, 2, 7, 4095, 4096} {
		c := made(t, n)
		var want []api.Question
		for i := range n + 3 {
			want = append(want, ask(strconv.Itoa(i)))
			put(t, c, want[i], positive(9), i%90)
		}
		rowed(t, c, want[3:]...)
	}
}

func TestNone(t *testing.T) { // P14.4, R1
	var no *Cache
	for _, c := range []*Cache{no, new(Cache)} {
		for _, q := range []api.Question{ask("a"), {}, {Name: api.Root}} {
			for _, now := range []int{math.MinInt, 0, 5, math.MaxInt} {
				refused(t, c, q, positive(9), now)
				silent(t, c, q, now)
			}
		}
	}
}

func TestNoName(t *testing.T) { // P14.2, P14.3, R1
	c := made(t, 9)
	put(t, c, ask("a"), positive(9), 0)
	for _, n := range noNames {
		q := api.Question{Name: n, Type: api.TypeA, Class: api.ClassIN}
		refused(t, c, q, positive(9), 3)
		silent(t, c, q, 3)
	}
	for _, n := range []api.Name{api.Root, longest} {
		q := api.Question{Name: n, Type: api.TypeA, Class: api.ClassIN}
		put(t, c, q, positive(8), 3)
		tells(t, c, q, 3, 8)
	}
	tells(t, c, ask("a"), 3, 9)
}

func TestRefusedLeavesNothing(t *testing.T) { // P14.2, R8
	c := made(t, 2)
	put(t, c, ask("a"), positive(9), 0)
	put(t, c, ask("b"), positive(9), 0)

	// What is refused is neither used, nor does it take what stands there away.
	refused(t, c, ask("a"), positive(0), 10)
	refused(t, c, ask("c"), positive(0), 10)
	refused(t, c, ask("A"), api.Answer{Rcode: api.ServFail}, 10)
	refused(t, c, api.Question{Name: "\x01a", Type: api.TypeA, Class: api.ClassIN}, positive(9), 10)
	tells(t, c, ask("a"), 10, 8)
}

func TestOverGoesFirst(t *testing.T) { // P14.2, P14.3
	for _, do := range []func(c *Cache, now int) bool{
		func(c *Cache, now int) bool { return c.Put(ask("x"), positive(0), now) },
		func(c *Cache, now int) bool { return c.Put(ask("b"), api.Answer{}, now) },
		func(c *Cache, now int) bool { return c.Put(api.Question{Name: "x"}, positive(9), now) },
		func(c *Cache, now int) bool { return c.Put(api.Question{}, api.Answer{}, now) },
		func(c *Cache, now int) bool { _, ok := c.Get(ask("x"), now); return ok },
		func(c *Cache, now int) bool { _, ok := c.Get(api.Question{}, now); return ok },
		func(c *Cache, now int) bool { _, ok := c.Get(ask("b"), now); return ok && now > 40 },
	} {
		c := made(t, 9)
		for i, ttl := range []uint32{3, 4, 2, 5, 2, 4} {
			put(t, c, ask(string(rune('a'+i))), positive(ttl), 0)
		}
		for _, step := range []struct {
			now  int
			left string
		}{{-5, "abcdef"}, {19, "abcdef"}, {20, "abdf"}, {29, "abdf"}, {40, "d"}, {49, "d"}, {math.MaxInt, ""}} {
			if do(c, step.now) {
				t.Errorf("at %d it is true", step.now)
			}
			var left []byte
			for _, k := range c.Keys() {
				left = append(left, k.Name[1])
			}
			slices.Sort(left)
			if string(left) != step.left || c.Len() != len(left) {
				t.Errorf("at %d: %q is left, Len is %d", step.now, left, c.Len())
			}
		}
	}

	// Room that is free by what is over need not be made.
	c := made(t, 2)
	put(t, c, ask("a"), positive(9), 0)
	put(t, c, ask("b"), positive(1), 0)
	put(t, c, ask("c"), positive(9), 10)
	rowed(t, c, ask("a"), ask("c"))
}

func TestPutAnew(t *testing.T) { // P14.2
	c := made(t, 3)
	put(t, c, ask("a"), positive(9), 0)
	put(t, c, ask("b"), positive(9), 0)
	put(t, c, ask("c"), positive(9), 0)
	put(t, c, ask("A"), positive(2, 3), 5)
	rowed(t, c, ask("b"), ask("c"), ask("a"))
	tells(t, c, ask("a"), 24, 1, 2)
	silent(t, c, ask("a"), 25)
	rowed(t, c, ask("b"), ask("c"))

	// It lives as long as the later answer, if that is longer, too.
	put(t, c, ask("b"), positive(1), 25)
	put(t, c, ask("b"), positive(5), 26)
	put(t, c, ask("b"), api.Answer{Rcode: api.NXDomain, Authority: []api.Record{soa(20, 30)}}, 27)
	tells(t, c, ask("b"), 226, 1)
	silent(t, c, ask("b"), 227)
	rowed(t, c)
}

func TestKeysAreInSmallLetters(t *testing.T) { // P14.2, P14.3, P14.4
	c := made(t, 9)
	q := api.Question{Name: "\x03[Az\x02`{\x00", Type: api.TypeMX, Class: 7}
	put(t, c, q, positive(5), 0)
	small := api.Question{Name: "\x03[az\x02`{\x00", Type: api.TypeMX, Class: 7}
	rowed(t, c, small)
	tells(t, c, q, 0, 5)
	tells(t, c, small, 0, 5)
	tells(t, c, api.Question{Name: "\x03[aZ\x02`{\x00", Type: api.TypeMX, Class: 7}, 0, 5)
	for _, other := range []api.Question{
		{Name: "\x03{az\x02`{\x00", Type: api.TypeMX, Class: 7}, {Name: "\x03[az\x02@[\x00", Type: api.TypeMX, Class: 7},
		{Name: small.Name, Type: api.TypeA, Class: 7}, {Name: small.Name, Type: api.TypeANY, Class: 7},
		{Name: small.Name, Type: api.TypeMX, Class: 1}, {Name: "\x02`{\x00", Type: api.TypeMX, Class: 7},
	} {
		silent(t, c, other, 0)
	}
}

func TestRow(t *testing.T) { // P14.2, P14.3, P14.4
	a, b, c, d, e := ask("a"), ask("b"), ask("c"), ask("d"), ask("e")
	k := made(t, 4)
	for _, q := range []api.Question{a, b, c, d} {
		put(t, k, q, positive(9), 50)
	}
	rowed(t, k, a, b, c, d)
	tells(t, k, d, 50, 9)
	rowed(t, k, a, b, c, d)
	tells(t, k, a, 50, 9)
	rowed(t, k, b, c, d, a)
	tells(t, k, c, 50, 9)
	rowed(t, k, b, d, a, c)
	silent(t, k, e, 50)
	rowed(t, k, b, d, a, c)

	// The row is by the order of calls, whatever the ticks are.
	tells(t, k, b, 0, 9)
	rowed(t, k, d, a, c, b)
	put(t, k, e, positive(9), 0)
	rowed(t, k, a, c, b, e)
	put(t, k, c, positive(9), 0)
	rowed(t, k, a, b, e, c)

	one := made(t, 1)
	put(t, one, a, positive(9), 0)
	tells(t, one, a, 0, 9)
	put(t, one, b, positive(9), 0)
	rowed(t, one, b)
	put(t, one, b, positive(8), 0)
	rowed(t, one, b)
	silent(t, one, b, 80)
	put(t, one, a, positive(9), 80)
	rowed(t, one, a)
}

func TestLife(t *testing.T) { // P14.2, P14.5
	const most = api.MaxTTL
	texts := addresses
	for _, x := range []struct {
		a    api.Answer
		life int
	}{
		// Records.
		{positive(1), 1},
		{positive(most), most},
		{positive(most + 1), 0},
		{positive(math.MaxUint32), 0},
		{positive(9, 8, 9), 8},
		{positive(9, most+1, 9), 0},
		{positive(most+1, 9), 0},
		{positive(9, 0, 9), 0},
		{positive(0), 0},
		{api.Answer{Answer: texts(9), Authority: texts(7), Extra: texts(8)}, 7},
		{api.Answer{Answer: texts(9), Authority: texts(8), Extra: texts(7)}, 7},
		{api.Answer{Answer: texts(7), Authority: texts(9), Extra: texts(8)}, 7},
		{api.Answer{Answer: texts(9), Authority: texts(8), Extra: texts(0)}, 0},
		{api.Answer{Answer: texts(9), Authority: texts(most + 1), Extra: texts(8)}, 0},
		{api.Answer{Answer: texts(9), Extra: texts(1<<31 + 5)}, 0},
		{api.Answer{Answer: texts(9), Authority: []api.Record{soa(60, 7)}}, 9},
		{api.Answer{Answer: texts(9), Authority: []api.Record{soa(60, 0)}}, 9},
		{api.Answer{Answer: texts(9), Authority: []api.Record{soa(6, 7)}}, 6},
		{api.Answer{Answer: []api.Record{soa(6, 2)}}, 6},

		// No such name.
		{api.Answer{Rcode: 3, Authority: []api.Record{soa(60, 7)}}, 7},
		{api.Answer{Rcode: 3, Authority: []api.Record{soa(6, 7)}}, 6},
		{api.Answer{Rcode: 3, Authority: []api.Record{soa(7, 7)}}, 7},
		{api.Answer{Rcode: 3, Authority: []api.Record{soa(7, 0)}}, 0},
		{api.Answer{Rcode: 3, Authority: []api.Record{soa(0, 7)}}, 0},
		{api.Answer{Rcode: 3, Authority: []api.Record{soa(most, most)}}, most},
		{api.Answer{Rcode: 3, Authority: []api.Record{soa(most, most+1)}}, 0},
		{api.Answer{Rcode: 3, Authority: []api.Record{soa(most+1, most)}}, 0},
		{api.Answer{Rcode: 3, Authority: []api.Record{soa(math.MaxUint32, math.MaxUint32)}}, 0},
		{api.Answer{Rcode: 3, Answer: texts(5), Authority: []api.Record{soa(60, 7)}}, 5},
		{api.Answer{Rcode: 3, Answer: texts(50), Authority: []api.Record{soa(60, 7)}}, 7},
		{api.Answer{Rcode: 3, Authority: []api.Record{soa(60, 7)}, Extra: texts(4)}, 4},
		{api.Answer{Rcode: 3, Authority: []api.Record{soa(60, 7)}, Extra: texts(most + 1)}, 0},
		{api.Answer{Rcode: 3, Authority: []api.Record{soa(60, 7), soa(70, 3)}}, 7},
		{api.Answer{Rcode: 3, Authority: []api.Record{soa(60, 7), soa(5, 90)}}, 5},
		{api.Answer{Rcode: 3, Authority: []api.Record{soa(60, 0), soa(60, 7)}}, 0},
		{api.Answer{Rcode: 3, Authority: append(texts(90), soa(60, 7))}, 7},
		{api.Answer{Rcode: 3, Authority: append(texts(2), soa(60, 7))}, 2},
		{api.Answer{Rcode: 3}, 0},
		{api.Answer{Rcode: 3, Answer: texts(9), Authority: texts(9), Extra: texts(9)}, 0},
		{api.Answer{Rcode: 3, Answer: []api.Record{soa(60, 7)}, Extra: []api.Record{soa(60, 7)}}, 0},

		// No such record.
		{api.Answer{Authority: []api.Record{soa(60, 7)}}, 7},
		{api.Answer{AA: true, Answer: []api.Record{}, Authority: []api.Record{soa(6, 7)}}, 6},
		{api.Answer{Authority: []api.Record{soa(60, 7)}, Extra: texts(3)}, 3},
		{api.Answer{Authority: texts(9)}, 0},
		{api.Answer{Authority: texts(9), Extra: texts(9)}, 0},
		{api.Answer{Extra: []api.Record{soa(60, 7)}}, 0},
		{api.Answer{}, 0},

		// Other codes.
		{api.Answer{Rcode: 1, Answer: texts(9)}, 0},
		{api.Answer{Rcode: 2, Answer: texts(9), Authority: []api.Record{soa(60, 7)}}, 0},
		{api.Answer{Rcode: 4, Authority: []api.Record{soa(60, 7)}}, 0},
		{api.Answer{Rcode: 5, Answer: texts(9)}, 0},
		{api.Answer{Rcode: 16, Answer: texts(9)}, 0},
		{api.Answer{Rcode: 256, Answer: texts(9)}, 0},
		{api.Answer{Rcode: 259, Authority: []api.Record{soa(60, 7)}}, 0},
		{api.Answer{Rcode: math.MaxUint16, Authority: []api.Record{soa(60, 7)}}, 0},
	} {
		lives(t, x.a, x.life)
	}
}

// lives holds for how long an answer is told against the seconds for which it should be.
func lives(t *testing.T, a api.Answer, seconds int) {
	t.Helper()
	for _, now := range []int{0, 3, 9, 77, 1 << 40} {
		c := made(t, 1)
		if seconds == 0 {
			refused(t, c, ask("a"), a, now)
			silent(t, c, ask("a"), now)
			continue
		}
		put(t, c, ask("a"), a, now)
		for _, since := range []int{0, 9, 10, 11, seconds*10 - 11, seconds*10 - 10, seconds*10 - 1} {
			if 0 > since || since >= seconds*10 {
				continue
			}
			want := ttls(a)
			for i := range want {
				want[i] -= uint32(since / 10)
			}
			tells(t, c, ask("a"), now+since, want...)
		}
		silent(t, c, ask("a"), now+seconds*10)
		rowed(t, c)
		silent(t, c, ask("a"), now)
	}
}

func TestNow(t *testing.T) { // P14.2, P14.3, R1
	const last = 1 << 62
	c := made(t, 9)
	put(t, c, ask("a"), positive(9), -1000)
	tells(t, c, ask("a"), math.MinInt, 9)
	tells(t, c, ask("a"), 9, 9)
	tells(t, c, ask("a"), 10, 8)
	tells(t, c, ask("a"), 89, 1)
	tells(t, c, ask("a"), -1, 9)
	silent(t, c, ask("a"), 90)
	put(t, c, ask("a"), positive(9), math.MinInt)
	silent(t, c, ask("a"), math.MaxInt)

	// Time doesn't go beyond the last tick, so what is put there stays.
	put(t, c, ask("a"), positive(1), last-20)
	put(t, c, ask("b"), positive(3), last-20)
	tells(t, c, ask("a"), last-11, 1)
	tells(t, c, ask("b"), math.MaxInt, 1)
	rowed(t, c, ask("b"))
	for _, now := range []int{last, last + 1, math.MaxInt} {
		put(t, c, ask("c"), positive(1, api.MaxTTL), now)
		tells(t, c, ask("c"), last, 1, api.MaxTTL)
		tells(t, c, ask("c"), math.MaxInt, 1, api.MaxTTL)
		tells(t, c, ask("c"), last-1, 1, api.MaxTTL)
		tells(t, c, ask("c"), 0, 1, api.MaxTTL)
	}
	put(t, c, ask("d"), positive(api.MaxTTL), math.MaxInt)
	tells(t, c, ask("d"), math.MaxInt, api.MaxTTL)
	put(t, c, ask("e"), positive(1), last-10)
	tells(t, c, ask("e"), last-1, 1)
	silent(t, c, ask("e"), last)
}

func TestNowGoesBack(t *testing.T) { // P14.3
	c := made(t, 9)
	put(t, c, ask("a"), positive(9), 500)
	for _, now := range []int{499, 490, 400, 0, -1, 500, 509} {
		tells(t, c, ask("a"), now, 9)
	}
	tells(t, c, ask("a"), 519, 8)
	tells(t, c, ask("a"), 501, 9)
	put(t, c, ask("b"), positive(2), 10)
	rowed(t, c, ask("a"), ask("b"))
	tells(t, c, ask("b"), 29, 1)
	silent(t, c, ask("b"), 30)
	tells(t, c, ask("a"), 30, 9)
	rowed(t, c, ask("a"))
}

func TestAllElseIsAsItWasPut(t *testing.T) { // P14.3
	mail := api.Data{Host: "\x01H\x00", Mail: "\x01M\x00", Raw: "RaW", N: [5]uint32{1, 1 << 31, 3, 4, math.MaxUint32}}
	a := api.Answer{
		Rcode: api.NXDomain, AA: true,
		Answer:    []api.Record{{Name: "\x02Ab\x01Z\x00", Type: 65535, Class: 3, TTL: 50, Data: mail}, {Name: "Q[", TTL: 41, Data: mail}},
		Authority: []api.Record{{Name: "\x01{@\x00", Type: 15, Class: 1, TTL: 60, Data: mail}, soa(70, 44)},
		Extra:     []api.Record{{Type: api.TypeOPT, Class: 4096, TTL: 80}, {Name: longest, TTL: 90, Data: mail}},
	}
	want := api.Answer{
		Rcode:     api.NXDomain,
		Answer:    []api.Record{{Name: "\x02ab\x01z\x00", Type: 65535, Class: 3, TTL: 46, Data: mail}, {Name: "q[", TTL: 37, Data: mail}},
		Authority: []api.Record{{Name: "\x01{@\x00", Type: 15, Class: 1, TTL: 56, Data: mail}, soa(66, 44)},
		Extra:     []api.Record{{Type: api.TypeOPT, Class: 4096, TTL: 76}, {Name: longest, TTL: 86, Data: mail}},
	}
	want.Authority[1].Name = "\x01e\x00"
	c := made(t, 1)
	put(t, c, ask("a"), a, 0)
	for range 3 {
		if b, ok := c.Get(ask("a"), 45); !same(b, want) || !ok {
			t.Errorf("Get = %v, %v, not %v", b, ok, want)
		}
	}
	if b, ok := c.Get(ask("a"), 409); !ok || !slices.Equal(ttls(b), []uint32{10, 1, 20, 30, 40, 50}) {
		t.Errorf("Get = %v, %v", b, ok)
	}
	silent(t, c, ask("a"), 410)
}

// spoil writes all over a list, and the room behind its end.
func spoil(l []api.Record) {
	l = l[:cap(l)]
	for i := range l {
		l[i] = api.Record{Name: "x"}
	}
}

// copied is an answer in memory of its own, with room behind each list's end.
func copied(a api.Answer) api.Answer {
	for _, l := range []*[]api.Record{&a.Answer, &a.Authority, &a.Extra} {
		*l = append(make([]api.Record, 0, len(*l)+3), *l...)
	}
	return a
}

func TestNothingIsShared(t *testing.T) { // P14.2, P14.3, P14.4, R3
	in := copied(api.Answer{Answer: addresses(9, 8), Authority: []api.Record{soa(7, 6)}, Extra: addresses(6, 5, 4)})
	before := copied(in)
	c := made(t, 9)
	put(t, c, ask("a"), in, 0)
	room := func(l []api.Record) []api.Record { return l[:cap(l)] }
	for _, x := range [][2][]api.Record{{in.Answer, before.Answer}, {in.Authority, before.Authority}, {in.Extra, before.Extra}} {
		if !slices.Equal(room(x[0]), room(x[1])) {
			t.Errorf("Put writes into what is handed in: %v", room(x[0]))
		}
	}
	first, _ := c.Get(ask("a"), 10)
	second, _ := c.Get(ask("a"), 10)
	kept := copied(second)
	if !same(first, second) {
		t.Errorf("Get = %v, and then %v", first, second)
	}
	spoil(in.Answer)
	spoil(in.Authority)
	spoil(in.Extra)
	spoil(first.Answer)
	if !slices.Equal(first.Authority, kept.Authority) || !slices.Equal(first.Extra, kept.Extra) {
		t.Error("two lists share memory")
	}
	spoil(first.Authority)
	if !slices.Equal(first.Extra, kept.Extra) {
		t.Error("two lists share memory")
	}
	spoil(first.Extra)
	if third, ok := c.Get(ask("a"), 10); !ok || !same(third, kept) || !same(second, kept) {
		t.Errorf("Get = %v, %v; before it %v", third, ok, second)
	}

	put(t, c, ask("b"), positive(9), 10)
	keys := c.Keys()
	for i := range keys[:cap(keys)] {
		keys[:cap(keys)][i] = ask("x")
	}
	rowed(t, c, ask("a"), ask("b"))
	tells(t, c, ask("b"), 10, 9)
}
