package cache

import (
	"math"
	"math/rand"
	"slices"
	"testing"

	"hearsay/api"
	"hearsay/name"
)

// lower is a name in small letters, by another way than the package's.
func lower(n api.Name) api.Name {
	b := []byte(n)
	for i, c := range b {
		if 'A' <= c && c <= 'Z' {
			b[i] = c - 'A' + 'a'
		}
	}
	return api.Name(b)
}

// was is an entry of the model.
type was struct {
	key       api.Question
	answer    api.Answer
	put, life int
}

// model is a cache by the chapter's words: its row.
type model struct {
	room int
	row  []was
}

// when is now as it counts.
func when(now int) int {
	switch {
	case now < 0:
		return 0
	case now > 1<<62:
		return 1 << 62
	}
	return now
}

// keyed is a question's key.
func keyed(q api.Question) api.Question {
	return api.Question{Name: lower(q.Name), Type: q.Type, Class: q.Class}
}

// lifeOf is an answer's life by the chapter's words.
func lifeOf(a api.Answer) int {
	counts := func(n uint32) int {
		if n >= 1<<31 {
			return 0
		}
		return int(n)
	}
	var all []int
	for _, l := range [][]api.Record{a.Answer, a.Authority, a.Extra} {
		for _, r := range l {
			all = append(all, counts(r.TTL))
		}
	}
	if a.Rcode == 0 && len(a.Answer) > 0 {
		return slices.Min(all)
	}
	at := slices.IndexFunc(a.Authority, func(r api.Record) bool { return r.Type == 6 })
	if a.Rcode != 0 && a.Rcode != 3 || at < 0 {
		return 0
	}
	return min(slices.Min(all), counts(a.Authority[at].Data.N[4]))
}

// sweep takes away what is over.
func (m *model) sweep(now int) {
	m.row = slices.DeleteFunc(m.row, func(w was) bool { return now >= w.put+w.life*10 })
}

// put is Put by the chapter's words.
func (m *model) put(q api.Question, a api.Answer, now int) bool {
	m.sweep(when(now))
	life := lifeOf(a)
	if name.Check(q.Name) != api.OK || life == 0 {
		return false
	}
	m.row = slices.DeleteFunc(m.row, func(w was) bool { return w.key == keyed(q) })
	m.row = append(m.row, was{keyed(q), copied(a), when(now), life})
	if len(m.row) > m.room {
		m.row = slices.Delete(m.row, 0, 1)
	}
	return true
}

// get is Get by the chapter's words.
func (m *model) get(q api.Question, now int) (api.Answer, bool) {
	m.sweep(when(now))
	at := slices.IndexFunc(m.row, func(w was) bool { return w.key == keyed(q) })
	if at < 0 {
		return api.Answer{}, false
	}
	w := m.row[at]
	m.row = append(slices.Delete(m.row, at, at+1), w)
	out := copied(w.answer)
	out.AA = false
	gone := 0
	if when(now) > w.put {
		gone = (when(now) - w.put) / 10
	}
	for _, l := range [][]api.Record{out.Answer, out.Authority, out.Extra} {
		for i := range l {
			l[i].Name = lower(l[i].Name)
			l[i].TTL -= uint32(gone)
		}
	}
	return out, true
}

// keys are the model's.
func (m *model) keys() []api.Question {
	var l []api.Question
	for _, w := range m.row {
		l = append(l, w.key)
	}
	return l
}

// agree holds a cache's row against the model's.
func agree(t *testing.T, c *Cache, m *model) {
	t.Helper()
	if keys := c.Keys(); !slices.Equal(keys, m.keys()) || c.Len() != len(m.row) {
		t.Fatalf("Keys = %.400s, Len = %d, not %.400s", text(keys), c.Len(), text(m.keys()))
	}
}

// bothPut puts an answer into a cache and its model.
func bothPut(t *testing.T, c *Cache, m *model, q api.Question, a api.Answer, now int) bool {
	t.Helper()
	ok, will := c.Put(q, a, now), m.put(q, a, now)
	if ok != will {
		t.Fatalf("Put(%v, %v, %d) = %v", q, a, now, ok)
	}
	agree(t, c, m)
	return ok
}

// bothGet asks a cache and its model.
func bothGet(t *testing.T, c *Cache, m *model, q api.Question, now int) (api.Answer, bool) {
	t.Helper()
	a, ok := c.Get(q, now)
	w, will := m.get(q, now)
	if !same(a, w) || ok != will {
		t.Fatalf("Get(%v, %d) = %v, %v, not %v, %v", q, now, a, ok, w, will)
	}
	agree(t, c, m)
	return a, ok
}

// drawnTTL is a number of seconds, often one that matters.
func drawnTTL(draws *rand.Rand) uint32 {
	switch draws.Intn(40) {
	case 0:
		return 0
	case 1:
		return api.MaxTTL
	case 2:
		return api.MaxTTL + 1
	case 3:
		return math.MaxUint32
	}
	return uint32(1 + draws.Intn(12))
}

// drawnList are some records.
func drawnList(draws *rand.Rand, most int) []api.Record {
	var l []api.Record
	for range draws.Intn(most) {
		r := api.Record{Name: []api.Name{"\x01A\x00", "\x01b\x00", "Q"}[draws.Intn(3)], Type: uint16(1 + draws.Intn(6)), Class: 1, TTL: drawnTTL(draws)}
		r.Data.N[4] = drawnTTL(draws)
		l = append(l, r)
	}
	return l
}

// drawnAnswer is one that is kept more often than not.
func drawnAnswer(draws *rand.Rand) api.Answer {
	a := api.Answer{AA: draws.Intn(2) == 0, Answer: drawnList(draws, 3), Authority: drawnList(draws, 3), Extra: drawnList(draws, 2)}
	switch draws.Intn(8) {
	case 0:
		a.Rcode = uint16(draws.Intn(6))
	case 1, 2:
		a.Rcode = api.NXDomain
	}
	if draws.Intn(3) == 0 {
		a.Authority = append(a.Authority, soa(drawnTTL(draws), drawnTTL(draws)))
	}
	return a
}

// drawnQuestion is one out of few.
func drawnQuestion(draws *rand.Rand) api.Question {
	q := api.Question{Name: api.Name("\x01") + api.Name("aAbBcCdDeE"[draws.Intn(10)]) + "\x00", Type: uint16(1 + draws.Intn(2)), Class: 1}
	if draws.Intn(30) == 0 {
		q.Name = []api.Name{"", "x", api.Root, "\x01\x00"}[draws.Intn(4)]
	}
	return q
}

// drawnNow is a tick behind now, or, seldom, any tick.
func drawnNow(draws *rand.Rand, now int) int {
	switch draws.Intn(60) {
	case 0:
		return now - draws.Intn(100)
	case 1:
		return []int{math.MinInt, -1, 0, 1 << 62, 1<<62 - 30, math.MaxInt}[draws.Intn(6)]
	}
	return min(now, math.MaxInt-100) + draws.Intn(8)
}

func TestAgainstTheWords(t *testing.T) { // P14.1 to P14.5
	draws := rand.New(rand.NewSource(1))
	met := map[string]int{}
	for range 400 {
		room := 1 + draws.Intn(12)
		c, m := made(t, room), &model{room: room}
		now := draws.Intn(100)
		for range 200 {
			now = drawnNow(draws, now)
			q, before := drawnQuestion(draws), len(m.row)
			if draws.Intn(2) == 0 {
				a := drawnAnswer(draws)
				there := slices.Contains(m.keys(), keyed(q))
				count(met, "put", bothPut(t, c, m, q, a, now))
				count(met, "there", there)
				count(met, "full", !there && before == room && len(m.row) == room)
				count(met, "negative", len(m.row) > 0 && len(m.row[len(m.row)-1].answer.Answer) == 0)
			} else {
				a, ok := bothGet(t, c, m, q, now)
				count(met, "get", ok)
				count(met, "with less", ok && !slices.Equal(ttls(a), ttls(m.row[len(m.row)-1].answer)))
				count(met, "ahead", ok && m.row[len(m.row)-1].put > when(now))
			}
			count(met, "over", len(m.row) < before)
		}
	}
	for _, what := range []string{"put", "there", "full", "negative", "get", "with less", "ahead", "over"} {
		if met[what] < 500 || met["no "+what] < 500 {
			t.Errorf("%s: %d times, %d times not", what, met[what], met["no "+what])
		}
	}
}

// count tells how often something was, and how often not.
func count(met map[string]int, what string, is bool) {
	if !is {
		what = "no " + what
	}
	met[what]++
}

func TestNothingIsToldTooLong(t *testing.T) { // P14.5
	draws := rand.New(rand.NewSource(2))
	for range 3000 {
		a, from := drawnAnswer(draws), draws.Intn(1000)
		life := lifeOf(a)
		if life == 0 {
			continue
		}
		for _, since := range []int{0, 1, 9, 10, draws.Intn(life * 10), draws.Intn(life * 10), life*10 - 1, life * 10, life*10 + 1} {
			c := made(t, 2)
			put(t, c, ask("a"), a, from)
			b, ok := c.Get(ask("a"), from+since)
			if ok != (since < life*10) {
				t.Fatalf("%v, of %d seconds, is told %d ticks later: %v", a, life, since, ok)
			}
			for i, n := range ttls(b) {
				if int(n) > int(ttls(a)[i])-since/10 || n > api.MaxTTL {
					t.Fatalf("%v is told %d ticks later as %v", a, since, b)
				}
			}
		}
	}
}

func TestKeysAreApart(t *testing.T) { // P14.6
	draws := rand.New(rand.NewSource(3))
	told := 0
	for range 300 {
		together, alone := made(t, 30), map[api.Question]*Cache{}
		now := 0
		for range 150 {
			now += draws.Intn(6)
			q := drawnQuestion(draws)
			if alone[keyed(q)] == nil {
				alone[keyed(q)] = made(t, 1)
			}
			if draws.Intn(3) == 0 {
				a := drawnAnswer(draws)
				if ok := together.Put(q, a, now); ok != alone[keyed(q)].Put(q, a, now) {
					t.Fatalf("Put(%v, %v, %d) = %v, and alone not", q, a, now, ok)
				}
				continue
			}
			a, ok := together.Get(q, now)
			b, will := alone[keyed(q)].Get(q, now)
			if !same(a, b) || ok != will {
				t.Fatalf("Get(%v, %d) = %v, %v, and alone %v, %v", q, now, a, ok, b, will)
			}
			if ok {
				told++
			}
		}
	}
	if told < 1000 {
		t.Errorf("told %d times", told)
	}
}

// FuzzCache puts and asks by the bytes that it is given: what is told is held against the chapter's words.
func FuzzCache(f *testing.F) {
	f.Add(2, []byte("\x00a\x05\x09\x07\x64\x01A\x05\x09\x07\x09\x01a\x05\x09\x07\x28"))
	f.Add(1, []byte("\x06b\xff\x3c\x07\x00\x01b\x00\x00\x00\x45\x01b\x00\x00\x00\x01"))
	f.Add(3, []byte("\x20a\x01\x01\x01\x01\x22b\x02\x02\x02\x02\x24c\x03\x03\x03\x03\x21a\x00\x00\x00\x00"))
	f.Fuzz(func(t *testing.T, room int, steps []byte) {
		c, e := New(room)
		if (e == api.OK) != (1 <= room && room <= 4096) || (e == api.OK) != (c != nil) {
			t.Fatalf("New(%d) = %v", room, e)
		}
		if c == nil || len(steps) > 6000 {
			return
		}
		m, now := &model{room: room}, 0
		for ; len(steps) >= 6; steps = steps[6:] {
			kind, ttl := steps[0], uint32(int32(int8(steps[2])))
			q := api.Question{Name: api.Name("\x01" + string(steps[1:2]) + "\x00"), Type: uint16(kind >> 5), Class: 1}
			now += int(int8(steps[5]))
			if kind&1 == 1 {
				bothGet(t, c, m, q, now)
				continue
			}
			a := api.Answer{Rcode: uint16(kind >> 2 & 3), Extra: addresses(uint32(steps[4])), Authority: []api.Record{soa(uint32(steps[3]), uint32(steps[4]))}}
			if kind&2 == 0 {
				a.Answer = addresses(ttl, uint32(steps[3]))
			}
			bothPut(t, c, m, q, a, now)
		}
	})
}
