package message

import (
	"bytes"
	"math/rand"
	"slices"
	"strings"
	"testing"

	"hearsay/api"
	"hearsay/octet"
	"hearsay/press"
	"hearsay/rdata"
)

const (
	na  = api.Name("\x01a\x00")
	nA  = api.Name("\x01A\x00")
	nb  = api.Name("\x01b\x00")
	nab = api.Name("\x01a\x01b\x00")
)

// other is a type whose data may be any bytes.
const other uint16 = 99

// typed is a record of the class IN and the TTL 9.
func typed(n api.Name, t uint16, d api.Data) api.Record {
	return api.Record{Name: n, Type: t, Class: api.ClassIN, TTL: 9, Data: d}
}

// address is a record of type A.
func address(n api.Name, raw string) api.Record {
	return typed(n, api.TypeA, api.Data{Raw: raw})
}

// filler is a record of which a message becomes longer by so many bytes, 11 at least.
func filler(bytes int) api.Record {
	return typed(api.Root, other, api.Data{Raw: strings.Repeat("x", bytes-11)})
}

// question asks for the addresses of a.
func question() api.Message {
	return api.Message{ID: 1, RD: true, Questions: []api.Question{{Name: na, Type: api.TypeA, Class: api.ClassIN}}}
}

// one are messages with one record each, in each of the three parts.
func one(r api.Record) []api.Message {
	l := []api.Record{r}
	return []api.Message{{Answer: l}, {Authority: l}, {Extra: l}}
}

// full is a message with something of everything.
func full() api.Message {
	const www = api.Name("\x03www\x01a\x01b\x00")
	return api.Message{
		ID: 0xfeff, Reply: true, Opcode: 5, AA: true, RD: true, Z: 2, Rcode: 9,
		Questions: []api.Question{{Name: www, Type: api.TypeANY, Class: 255}, {Name: api.Root, Type: 0, Class: 65535}},
		Answer: []api.Record{
			typed(www, api.TypeCNAME, api.Data{Host: "\x03WWW\x01a\x01b\x00"}),
			typed("\x03WWW\x01a\x01b\x00", api.TypeSRV, api.Data{N: [5]uint32{1, 2, 65535}, Host: www}),
			typed(nab, api.TypeMX, api.Data{N: [5]uint32{258}, Host: www}),
			typed(nab, api.TypeTXT, api.Data{Raw: "\x01a\x00"}),
		},
		Authority: []api.Record{
			typed(nb, api.TypeSOA, api.Data{Host: nab, Mail: "\x04mail\x01a\x01b\x00", N: [5]uint32{1, 2, 3, 4, 1<<32 - 1}}),
			{Name: nb, Type: api.TypeNS, Class: 3, TTL: 1<<32 - 1, Data: api.Data{Host: api.Root}},
		},
		Extra: []api.Record{
			typed("\x02ns\x01b\x00", api.TypeAAAA, api.Data{Raw: "0123456789abcdef"}),
			{Name: api.Root, Type: api.TypeOPT, Class: 1232, TTL: 0x8000, Data: api.Data{Raw: "\x00\x03\x00\x01a"}},
			typed(nab, api.TypePTR, api.Data{Host: nab}),
			typed(nA, other, api.Data{}),
		},
	}
}

// same tells whether two messages are the same, names byte by byte; lists without anything are the same.
func same(a, b api.Message) bool {
	lists := slices.Equal(a.Questions, b.Questions) && slices.Equal(a.Answer, b.Answer) && slices.Equal(a.Authority, b.Authority) && slices.Equal(a.Extra, b.Extra)
	return lists && heads(a, b)
}

// heads tells whether two messages are the same but for their questions and records.
func heads(a, b api.Message) bool {
	return a.ID == b.ID && a.Reply == b.Reply && a.Opcode == b.Opcode && a.AA == b.AA && a.TC == b.TC && a.RD == b.RD && a.RA == b.RA && a.Z == b.Z && a.Rcode == b.Rcode
}

// empty tells whether a message says nothing.
func empty(m api.Message) bool { return same(m, api.Message{}) }

// roomy is a copy of a message whose lists have room behind their ends, in which something stands; and all of these lists.
func roomy(m api.Message) (api.Message, []api.Question, []api.Record) {
	q := append(slices.Clone(m.Questions), api.Question{Name: "behind"})
	m.Questions = q[:len(q)-1]
	var all []api.Record
	for _, part := range parts(&m) {
		all = append(append(all, *part...), typed("behind", 7, api.Data{}))
	}
	at := 0
	for _, part := range parts(&m) {
		*part = all[at : at+len(*part)]
		at += len(*part) + 1
	}
	return m, q, all
}

// writeBehind writes into the room behind the ends of a message's lists.
func writeBehind(m api.Message) {
	_ = append(m.Questions, api.Question{Name: "behind"})
	for _, part := range parts(&m) {
		_ = append(*part, typed("behind", 7, api.Data{}))
	}
}

// wrote is what a message is in bytes, however many, by calls of the layers below alone.
func wrote(m api.Message) []byte {
	flags := uint16(m.Opcode)<<11 | uint16(m.Z)<<4 | uint16(m.Rcode)
	for place, is := range map[int]bool{15: m.Reply, 10: m.AA, 9: m.TC, 8: m.RD, 7: m.RA} {
		if is {
			flags |= 1 << place
		}
	}
	b := octet.Put(octet.Put(nil, m.ID), flags)
	for _, n := range []int{len(m.Questions), len(m.Answer), len(m.Authority), len(m.Extra)} {
		b = octet.Put(b, uint16(n))
	}
	tab := press.New()
	for _, q := range m.Questions {
		b, _ = tab.Put(b, q.Name)
		b = octet.Put(octet.Put(b, q.Type), q.Class)
	}
	for _, r := range slices.Concat(m.Answer, m.Authority, m.Extra) {
		b, _ = tab.Put(b, r.Name)
		b = octet.Put(octet.Put(octet.Put(b, r.Type), r.Class), r.TTL)
		at := len(b)
		b, _ = rdata.Put(octet.Put(b, uint16(0)), tab, r.Type, r.Data)
		b[at], b[at+1] = byte((len(b)-at-2)>>8), byte(len(b)-at-2)
	}
	return b
}

// drawn is a message of any records: few names, some of them long, so that pointers lead everywhere, and some data that are long.
func drawn(seed int64) api.Message {
	r := rand.New(rand.NewSource(seed))
	var names []api.Name
	for _, back := range []string{"\x00", "\x01b\x00", "\x01B\x00", "\x28" + strings.Repeat("l", 40) + "\x00"} {
		names = append(names, api.Name(back))
		for _, label := range []string{"\x01a", "\x01A", "\x3f" + strings.Repeat("m", 63)} {
			names = append(names, api.Name(label+back), api.Name(label+label+back))
		}
	}
	name := func() api.Name { return names[r.Intn(len(names))] }
	long := 1 + r.Intn(1<<r.Intn(15))
	record := func() api.Record {
		n, class := name(), uint16(1+r.Intn(2))
		x := api.Record{Name: n, Class: class, TTL: r.Uint32(), Type: []uint16{1, 2, 5, 6, 15, 16, 33, 41, 99}[r.Intn(9)]}
		switch x.Type {
		case 1:
			x.Data.Raw = "1234"
		case 6:
			x.Data.Host, x.Data.Mail = name(), name()
			x.Data.N[4] = r.Uint32()
		case 2, 5:
			x.Data.Host = name()
		case 15, 33:
			x.Data.Host = name()
			x.Data.N[0] = uint32(r.Intn(1 << 16))
		case 16:
			x.Data.Raw = strings.Repeat("\x00", long)
		default:
			x.Data.Raw = strings.Repeat("y", r.Intn(long))
		}
		return x
	}
	m := api.Message{ID: uint16(r.Uint32()), Reply: r.Intn(2) == 0, Opcode: uint8(r.Intn(16)), AA: r.Intn(2) == 0, TC: r.Intn(4) == 0, RD: r.Intn(2) == 0, RA: r.Intn(2) == 0, Z: uint8(r.Intn(8)), Rcode: uint8(r.Intn(16))}
	for range r.Intn(3) {
		m.Questions = append(m.Questions, api.Question{Name: name(), Type: uint16(r.Uint32()), Class: uint16(r.Uint32())})
	}
	for _, part := range parts(&m) {
		for range r.Intn(1 + 8*r.Intn(4)) {
			*part = append(*part, record())
		}
	}
	return m
}

func TestPack(t *testing.T) { // P6.1
	const head, none = "\x00\x00\x00\x00", "\x00\x00\x00\x00\x00\x00\x00\x00"
	const number4 = "\x00\x01\x00\x01\x00\x00\x00\x09\x00\x04"
	for _, x := range []struct {
		what string
		m    api.Message
		want string
	}{
		{"nothing", api.Message{}, head + none},
		{"a question", question(), "\x00\x01\x01\x00\x00\x01\x00\x00\x00\x00\x00\x00\x01a\x00\x00\x01\x00\x01"},
		{"an ID", api.Message{ID: 0xfedc}, "\xfe\xdc\x00\x00" + none},
		{"Reply", api.Message{Reply: true}, "\x00\x00\x80\x00" + none},
		{"Opcode", api.Message{Opcode: 15}, "\x00\x00\x78\x00" + none},
		{"Opcode 1", api.Message{Opcode: 1}, "\x00\x00\x08\x00" + none},
		{"AA", api.Message{AA: true}, "\x00\x00\x04\x00" + none},
		{"TC", api.Message{TC: true}, "\x00\x00\x02\x00" + none},
		{"RD", api.Message{RD: true}, "\x00\x00\x01\x00" + none},
		{"RA", api.Message{RA: true}, "\x00\x00\x00\x80" + none},
		{"Z", api.Message{Z: 7}, "\x00\x00\x00\x70" + none},
		{"Z 1", api.Message{Z: 1}, "\x00\x00\x00\x10" + none},
		{"Rcode", api.Message{Rcode: 15}, "\x00\x00\x00\x0f" + none},
		{"Rcode 1", api.Message{Rcode: 1}, "\x00\x00\x00\x01" + none},
		{"Answer", api.Message{Answer: []api.Record{address(na, "1234")}}, head + "\x00\x00\x00\x01\x00\x00\x00\x00\x01a\x00" + number4 + "1234"},
		{"Authority", api.Message{Authority: []api.Record{address(na, "1234")}}, head + "\x00\x00\x00\x00\x00\x01\x00\x00\x01a\x00" + number4 + "1234"},
		{"Extra", api.Message{Extra: []api.Record{address(na, "1234")}}, head + "\x00\x00\x00\x00\x00\x00\x00\x01\x01a\x00" + number4 + "1234"},
		{"one table", api.Message{
			Questions: []api.Question{{Name: nab, Type: 0x0102, Class: 0x0304}},
			Answer:    []api.Record{{Name: nab, Type: api.TypeMX, Class: 0x0506, TTL: 0x0708090a, Data: api.Data{N: [5]uint32{0x0b0c}, Host: "\x01c\x01b\x00"}}},
			Authority: []api.Record{typed("\x01c\x01b\x00", api.TypeSRV, api.Data{Host: nab})},
			Extra:     []api.Record{typed("\x01C\x01b\x00", api.TypeNS, api.Data{Host: "\x01C\x01b\x00"})},
		}, head + "\x00\x01\x00\x01\x00\x01\x00\x01" +
			"\x01a\x01b\x00\x01\x02\x03\x04" + // 12
			"\xc0\x0c\x00\x0f\x05\x06\x07\x08\x09\x0a\x00\x06\x0b\x0c\x01c\xc0\x0e" + // 21
			"\xc0\x23\x00\x21\x00\x01\x00\x00\x00\x09\x00\x0b\x00\x00\x00\x00\x00\x00\x01a\x01b\x00" + // 39
			"\x01C\xc0\x0e\x00\x02\x00\x01\x00\x00\x00\x09\x00\x02\xc0\x3e"}, // 62
	} {
		if b, e := Pack(x.m); e != api.OK || string(b) != x.want {
			t.Errorf("Pack of %s = % x, %v", x.what, b, e)
		}
	}
}

func TestPackRefuses(t *testing.T) { // P6.1
	noName, noData := typed("a", api.TypeA, api.Data{Raw: "1234"}), typed(na, api.TypeA, api.Data{Raw: "123"})
	roots, asked := slices.Repeat([]api.Record{typed(api.Root, other, api.Data{})}, 4097), slices.Repeat([]api.Question{{Name: api.Root}}, 4097)
	type refused []struct {
		m api.Message
		e api.Errno
	}
	l := refused{
		{api.Message{Opcode: 16}, api.ErrHead}, {api.Message{Z: 8}, api.ErrHead}, {api.Message{Rcode: 16}, api.ErrHead},
		{api.Message{Opcode: 255}, api.ErrHead}, {api.Message{Z: 255}, api.ErrHead}, {api.Message{Rcode: 255}, api.ErrHead},
		{api.Message{Opcode: 15, Z: 7, Rcode: 15}, api.OK},
		{api.Message{Questions: asked[:4096]}, api.OK}, {api.Message{Questions: asked}, api.ErrLong}, {api.Message{Questions: make([]api.Question, 4097)}, api.ErrLong},
		{api.Message{Answer: roots[:4096]}, api.OK}, {api.Message{Answer: roots}, api.ErrLong}, {api.Message{Answer: make([]api.Record, 4097)}, api.ErrLong},
		{api.Message{Authority: roots[:4096]}, api.OK}, {api.Message{Authority: roots}, api.ErrLong},
		{api.Message{Extra: roots[:4096]}, api.OK}, {api.Message{Extra: roots}, api.ErrLong},
		{api.Message{Questions: []api.Question{{Name: ""}}}, api.ErrName}, {api.Message{Questions: []api.Question{{Name: nab}, {Name: "\x01a"}}}, api.ErrName},
		// The error that stands first is answered, wherever it is.
		{api.Message{Opcode: 16, Questions: asked, Answer: []api.Record{noName, noData}}, api.ErrHead},
		{api.Message{Rcode: 16, Extra: roots}, api.ErrHead},
		{api.Message{Questions: []api.Question{{Name: "a"}}, Answer: []api.Record{noName, noData}, Extra: roots}, api.ErrLong},
		{api.Message{Answer: []api.Record{noData}, Extra: []api.Record{noName}}, api.ErrName},
		{api.Message{Answer: []api.Record{noData, noName}}, api.ErrName},
		{api.Message{Answer: []api.Record{filler(65535), filler(65535)}, Extra: []api.Record{noData}}, api.ErrData},
		{api.Message{Answer: []api.Record{filler(65535), filler(65535)}, Extra: []api.Record{noName}}, api.ErrName},
	}
	for _, r := range []api.Record{noName, {}, typed("\x01a\x00\x00", other, api.Data{}), typed(api.Name(strings.Repeat("\x01a", 128)+"\x00"), other, api.Data{})} {
		for _, m := range one(r) {
			l = append(l, refused{{m, api.ErrName}}...)
		}
	}
	for _, r := range []api.Record{noData, typed(na, api.TypeNS, api.Data{}), typed(na, api.TypeNS, api.Data{Host: "a"}), typed(na, api.TypeTXT, api.Data{}), typed(na, api.TypeMX, api.Data{N: [5]uint32{65536}, Host: na}), typed(na, other, api.Data{Host: na}), typed(na, other, api.Data{Raw: strings.Repeat("x", 65536)})} {
		for _, m := range one(r) {
			l = append(l, refused{{m, api.ErrData}}...)
		}
	}
	for i, x := range l {
		b, e := Pack(x.m)
		if e != x.e || e != api.OK && len(b) > 0 {
			t.Errorf("%d: Pack = %d bytes, %v", i, len(b), e)
		}
		// Fit has the same errors, whatever the size.
		for _, size := range []int{-1, 0, 65535, 1 << 40} {
			m, gone, e := Fit(x.m, size)
			if x.e != api.OK && (e != x.e || gone || !empty(m)) {
				t.Errorf("%d: Fit = %v, %v, %v", i, m, gone, e)
			}
		}
	}
}

func TestPackLong(t *testing.T) { // P6.1
	for _, bytes := range []int{65534, 65535, 65536, 65537, 100000} {
		for i, m := range one(filler(20000)) {
			for left := bytes - 12 - 20000; left > 0; {
				next := min(left, 20000)
				if left < 40000 {
					next = left
				}
				part := parts(&m)[i]
				*part = append(*part, filler(next))
				left -= next
			}
			if b, e := Pack(m); bytes <= 65535 && (e != api.OK || len(b) != bytes) || bytes > 65535 && (e != api.ErrLong || len(b) > 0) {
				t.Errorf("Pack of %d bytes: %d, %v", bytes, len(b), e)
			}
		}
	}
	// Questions alone.
	l := slices.Repeat([]api.Question{{Name: "\x0babcdefghijk\x00"}}, 4096)
	for i := range l {
		l[i].Name = api.Name(bytes.Replace([]byte(l[i].Name), []byte("abcd"), octet.Put(nil, uint32(i)), 1))
	}
	if b, e := Pack(api.Message{Questions: l}); e != api.ErrLong || len(b) > 0 {
		t.Errorf("Pack of long questions: %d bytes, %v", len(b), e)
	}
	if b, e := Pack(api.Message{Questions: l[:(65535-12)/17]}); e != api.OK || len(b) != 12+65523/17*17 {
		t.Errorf("Pack of questions: %d bytes, %v", len(b), e)
	}
	// What is too long without pointers may be.
	long := typed(api.Name(strings.Repeat("\x01a", 127)+"\x00"), other, api.Data{})
	if b, e := Pack(api.Message{Answer: slices.Repeat([]api.Record{long}, 4096)}); e != api.OK || len(b) != 12+4096*12+253 {
		t.Errorf("Pack of one long name: %d bytes, %v", len(b), e)
	}
}

func TestPackPointers(t *testing.T) { // P6.1
	// The last place that is remembered is 16383, of owners and of names in data.
	for place := 16370; place <= 16390; place++ {
		for _, m := range []api.Message{
			{Answer: []api.Record{filler(place - 12), address(nab, "1234"), address(nab, "1234"), address(nb, "1234")}},
			{Answer: []api.Record{filler(place - 12 - 13), typed(api.Root, api.TypeMX, api.Data{Host: nab}), typed(nab, api.TypeSRV, api.Data{Host: nab}), address(nb, "1234")}},
			{Answer: []api.Record{filler(place - 12 - 11), typed(api.Root, api.TypeSOA, api.Data{Host: nab, Mail: "\x01c\x01a\x01b\x00"}), address("\x01c\x01a\x01b\x00", "1234")}},
			{Answer: []api.Record{filler(place - 12 - 17), typed(api.Root, api.TypeSRV, api.Data{Host: nab}), address(nab, "1234"), address(nb, "1234")}},
		} {
			b, e := Pack(m)
			if e != api.OK || !bytes.Equal(b, wrote(m)) {
				t.Errorf("Pack with a name at %d: % x, %v", place, b[place:], e)
			}
			if back, e := Unpack(b); e != api.OK || !same(back, m) {
				t.Errorf("with a name at %d: %v, %v", place, back, e)
			}
		}
	}
	b, _ := Pack(api.Message{Answer: []api.Record{filler(16383 - 12), address(na, "1234"), address(na, "1234")}})
	if len(b) != 16383+17+16 {
		t.Errorf("a name at 16383: %d bytes", len(b))
	}
	b, _ = Pack(api.Message{Answer: []api.Record{filler(16384 - 12), address(na, "1234"), address(na, "1234")}})
	if len(b) != 16384+17+17 {
		t.Errorf("a name at 16384: %d bytes", len(b))
	}
}

func TestPackDrawn(t *testing.T) { // P6.1, P6.5
	long := 0
	for seed := range int64(1000) {
		m := drawn(seed)
		want := wrote(m)
		b, e := Pack(m)
		if len(want) > 65535 {
			long++
			if e != api.ErrLong || len(b) > 0 {
				t.Errorf("%d: Pack of %d bytes = %d, %v", seed, len(want), len(b), e)
			}
			continue
		}
		if e != api.OK || !bytes.Equal(b, want) {
			t.Errorf("%d: Pack = % .100x, %v", seed, b, e)
		}
		if back, e := Unpack(b); e != api.OK || !same(back, m) {
			t.Errorf("%d: Unpack of Pack: %v, %v", seed, back, e)
		}
	}
	if long < 5 || long > 500 {
		t.Errorf("%d of the messages are too long", long)
	}
}

func TestPackHasItsOwnMemory(t *testing.T) { // P6.1
	m, questions, records := roomy(full())
	q, r := slices.Clone(questions), slices.Clone(records)
	first, _ := Pack(m)
	second, e := Pack(m)
	want := bytes.Clone(second)
	for i := range first[:cap(first)] {
		first[:cap(first)][i] ^= 0xff
	}
	if e != api.OK || !bytes.Equal(second, want) {
		t.Errorf("two answers share memory")
	}
	if !slices.Equal(questions, q) || !slices.Equal(records, r) {
		t.Errorf("Pack changed what it was handed")
	}
}
