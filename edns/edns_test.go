package edns

import (
	"math"
	"slices"
	"strings"
	"testing"

	"hearsay/api"
	"hearsay/message"
)

// na is the name a., nb the name b.
const na, nb = api.Name("\x01a\x00"), api.Name("\x01b\x00")

// opt is an OPT of the root.
func opt(class uint16, ttl uint32, raw string) api.Record {
	return api.Record{Name: api.Root, Type: 41, Class: class, TTL: ttl, Data: api.Data{Raw: raw}}
}

// address is a record of type A.
func address(n api.Name, raw string) api.Record {
	return api.Record{Name: n, Type: api.TypeA, Class: api.ClassIN, TTL: 9, Data: api.Data{Raw: raw}}
}

// extra is a message with these records in Extra.
func extra(l ...api.Record) api.Message { return api.Message{Extra: l} }

// full is a message of whose fields none is zero, with an OPT in each part.
func full() api.Message {
	return api.Message{
		ID: 7, Reply: true, Opcode: 15, AA: true, TC: true, RD: true, RA: true, Z: 7, Rcode: 9,
		Questions: []api.Question{{Name: na, Type: 41, Class: 1}, {Name: nb, Type: 2, Class: 3}},
		Answer:    []api.Record{address(na, "1111"), opt(1, 1<<24, ""), address(nb, "1111")},
		Authority: []api.Record{opt(2, 2<<24, "x"), address(nb, "2222")},
		Extra:     []api.Record{address(nb, "3333"), opt(3, 3<<24, ""), address(na, "4444"), address(na, "3333")},
	}
}

// same tells whether two messages say the same.
func same(a, b api.Message) bool {
	return heads(a) == heads(b) && slices.Equal(a.Questions, b.Questions) &&
		slices.Equal(a.Answer, b.Answer) && slices.Equal(a.Authority, b.Authority) && slices.Equal(a.Extra, b.Extra)
}

// head is what a message says without its lists.
type head struct {
	ID                    uint16
	Opcode, Z, Rcode      uint8
	Reply, AA, TC, RD, RA bool
}

func heads(m api.Message) head {
	return head{m.ID, m.Opcode, m.Z, m.Rcode, m.Reply, m.AA, m.TC, m.RD, m.RA}
}

// someEdns are things that an OPT may say.
func someEdns() []api.Edns {
	return []api.Edns{
		{}, {Size: 1}, {Size: 65535}, {High: 1}, {High: 255}, {Version: 1}, {Version: 255}, {Flags: 1}, {Flags: 0x8000}, {Flags: 65535},
		{Options: "\x00\x00\x00\x00"}, {Options: "\x00\x03\x00\x01a"},
		{Size: 0x1234, High: 0x56, Version: 0x78, Flags: 0x9abc, Options: "\x00\x03\x00\x02ab\xff\xff\x00\x00\x00\x03\x00\x01\x00"},
		{Size: 512, Options: "\x00\x01\xff\xfb" + strings.Repeat("x", 65531)},
	}
}

// wrongOptions are options that may not be.
func wrongOptions() []string {
	return []string{
		"\x00", "\x00\x03", "\x00\x03\x00", "\x00\x03\x00\x01", "\x00\x03\x00\x02a", "\x00\x03\x01\x00a", "\x00\x03\xff\xffa",
		"\x00\x03\x00\x00a", "\x00\x03\x00\x01ab", "\x00\x03\x00\x01a\x00\x03\x00\x01", "\x00\x03\x00\x01a\x00\x03\x00",
		"\x00\x01\xff\xff" + strings.Repeat("x", 65534),
	}
}

func TestRecord(t *testing.T) { // P7.2
	for _, x := range []struct {
		e api.Edns
		r api.Record
	}{
		{api.Edns{}, opt(0, 0, "")},
		{api.Edns{Size: 1232, Flags: 0x8000}, opt(1232, 0x8000, "")},
		{api.Edns{Size: 65535}, opt(65535, 0, "")},
		{api.Edns{High: 1}, opt(0, 0x01000000, "")},
		{api.Edns{High: 255}, opt(0, 0xff000000, "")},
		{api.Edns{Version: 1}, opt(0, 0x00010000, "")},
		{api.Edns{Version: 255}, opt(0, 0x00ff0000, "")},
		{api.Edns{Flags: 65535}, opt(0, 0x0000ffff, "")},
		{api.Edns{Size: 0x1234, High: 0x56, Version: 0x78, Flags: 0x9abc, Options: "\x00\x03\x00\x01a"}, opt(0x1234, 0x56789abc, "\x00\x03\x00\x01a")},
		{api.Edns{Options: "\x00\x00\x00\x00\x00\x00\x00\x00"}, opt(0, 0, "\x00\x00\x00\x00\x00\x00\x00\x00")},
	} {
		if r, e := Record(x.e); r != x.r || e != api.OK {
			t.Errorf("Record(%v) = %v, %v", x.e, r, e)
		}
	}
}

func TestRecordRefused(t *testing.T) { // P7.2
	for _, s := range wrongOptions() {
		if r, e := Record(api.Edns{Size: 512, High: 1, Options: s}); r != (api.Record{}) || e != api.ErrOpt {
			t.Errorf("Record of the options %.20q = %v, %v", s, r, e)
		}
	}
	const half = 32768 - 4
	block := "\x00\x01\x7f\xfc" + strings.Repeat("x", half)
	for _, x := range []struct {
		last int
		e    api.Errno
	}{{half - 2, api.OK}, {half - 1, api.OK}, {half, api.ErrOpt}, {half + 1, api.ErrOpt}, {65535, api.ErrOpt}} {
		s := block + "\x00\x02" + string([]byte{byte(x.last >> 8), byte(x.last)}) + strings.Repeat("y", x.last)
		r, e := Record(api.Edns{Options: s})
		if e != x.e || e == api.OK && r.Data.Raw != s || e != api.OK && r != (api.Record{}) {
			t.Errorf("Record of %d bytes of options: %v", len(s), e)
		}
	}
}

func TestFind(t *testing.T) { // P7.1
	a, o := address(na, "1234"), opt(600, 0x02018001, "\x00\x03\x00\x01a")
	want := api.Edns{Size: 600, High: 2, Version: 1, Flags: 0x8001, Options: "\x00\x03\x00\x01a"}
	for _, x := range []struct {
		m   api.Message
		e   api.Edns
		has bool
	}{
		{api.Message{}, api.Edns{}, false},
		{extra(a, a), api.Edns{}, false},
		{api.Message{Answer: []api.Record{o, o}, Authority: []api.Record{o}, Extra: []api.Record{a}, Questions: []api.Question{{Name: api.Root, Type: 41}}}, api.Edns{}, false},
		{extra(o), want, true},
		{extra(a, o), want, true},
		{extra(o, a), want, true},
		{extra(a, o, a), want, true},
		{extra(opt(0, 0, "")), api.Edns{}, true},
		{extra(opt(65535, 1<<32-1, "\x00\x00\x00\x00")), api.Edns{Size: 65535, High: 255, Version: 255, Flags: 65535, Options: "\x00\x00\x00\x00"}, true},
		{api.Message{Answer: []api.Record{o}, Authority: []api.Record{o}, Extra: []api.Record{o}}, want, true},
	} {
		if e, has, no := Find(x.m); e != x.e || has != x.has || no != api.OK {
			t.Errorf("Find(%v) = %v, %v, %v", x.m, e, has, no)
		}
	}
}

func TestFindRefused(t *testing.T) { // P7.1
	a, o := address(na, "1234"), opt(600, 0x02018001, "\x00\x03\x00\x01a")
	of := func(n api.Name, d api.Data) api.Record {
		return api.Record{Name: n, Type: 41, Class: 512, Data: d}
	}
	l := []api.Message{
		extra(o, o), extra(o, a, o), extra(a, o, a, opt(512, 0, ""), a), extra(o, o, o), extra(o, of(na, api.Data{})), extra(of(na, api.Data{}), o),
		extra(of(na, api.Data{})), extra(of("", api.Data{})), extra(of("\x00\x00", api.Data{})), extra(of("a", api.Data{})), extra(a, of(na, api.Data{Raw: "\x00\x03\x00\x01a"})),
		extra(of(api.Root, api.Data{Host: api.Root})), extra(of(api.Root, api.Data{Mail: na})),
		extra(of(api.Root, api.Data{N: [5]uint32{1}})), extra(of(api.Root, api.Data{N: [5]uint32{4: 1}})),
		extra(of(api.Root, api.Data{Raw: "\x00\x03\x00\x01a", Host: na})),
	}
	for _, s := range wrongOptions() {
		l = append(l, extra(opt(512, 0, s)), extra(a, opt(512, 0, s), a))
	}
	for _, m := range l {
		if e, has, no := Find(m); e != (api.Edns{}) || has || no != api.ErrOpt {
			t.Errorf("Find(%.100v) = %v, %v, %v", m, e, has, no)
		}
	}
}

func TestFindOfRecord(t *testing.T) { // P7.6
	for _, x := range someEdns() {
		r, e := Record(x)
		if e != api.OK {
			t.Fatalf("Record(%.100v): %v", x, e)
		}
		m := full()
		m.Extra = []api.Record{address(na, "1234"), r, address(nb, "1234")}
		if got, has, e := Find(m); got != x || !has || e != api.OK {
			t.Errorf("Find of Record(%.100v) = %.100v, %v, %v", x, got, has, e)
		}
		b, e := message.Pack(extra(r))
		if len(x.Options) > 60000 {
			continue
		}
		if m, late := message.Unpack(b); e != api.OK || late != api.OK || !same(m, extra(r)) {
			t.Errorf("Record(%v) as bytes: %v, %v, %v", x, m, e, late)
		}
	}
}

func TestLimit(t *testing.T) { // P7.3, P7.6
	for _, x := range []struct {
		has        bool
		size       uint16
		most, want int
	}{
		{false, 0, 4096, 512}, {false, 4096, 4096, 512}, {false, 65535, math.MaxInt, 512}, {false, 1, -1, 512}, {false, 600, math.MinInt, 512},
		{true, 1232, 4096, 1232}, {true, 1232, 1232, 1232}, {true, 1232, 600, 600}, {true, 1232, 513, 513}, {true, 1232, 512, 512}, {true, 1232, 511, 512},
		{true, 1232, 0, 512}, {true, 1232, -1, 512}, {true, 1232, math.MinInt, 512}, {true, 1232, math.MaxInt, 1232},
		{true, 0, 4096, 512}, {true, 100, 4096, 512}, {true, 511, 4096, 512}, {true, 512, 4096, 512}, {true, 513, 4096, 513}, {true, 513, 512, 512},
		{true, 4096, 4096, 4096}, {true, 4097, 4096, 4096}, {true, 65535, 4096, 4096}, {true, 65535, 65534, 65534}, {true, 65535, 65535, 65535},
		{true, 65535, 65536, 65535}, {true, 65535, 65536 + 600, 65535}, {true, 65535, 1<<32 + 600, 65535}, {true, 65535, math.MaxInt, 65535},
	} {
		e := api.Edns{Size: x.size, High: 255, Version: 255, Flags: 65535, Options: "x"}
		if n := Limit(x.has, e, x.most); n != x.want {
			t.Errorf("Limit(%v, %d, %d) = %d, not %d", x.has, x.size, x.most, n, x.want)
		}
		if n := Limit(x.has, api.Edns{Size: x.size}, x.most); n < 512 || n > max(x.most, 512) {
			t.Errorf("Limit(%v, %d, %d) = %d", x.has, x.size, x.most, n)
		}
	}
}

func TestCode(t *testing.T) { // P7.4
	for _, x := range []struct {
		rcode uint8
		extra []api.Record
		code  uint16
	}{
		{0, nil, 0}, {5, nil, 5}, {15, nil, 15}, {3, []api.Record{address(na, "1234")}, 3},
		{0, []api.Record{opt(0, 0, "")}, 0}, {0, []api.Record{opt(65535, 0x00ffffff, "")}, 0}, {3, []api.Record{opt(0, 0, "")}, 3},
		{0, []api.Record{opt(0, 1<<24, "")}, 16}, {7, []api.Record{opt(512, 1<<24, "")}, 23}, {15, []api.Record{opt(512, 0xff<<24, "")}, 4095},
		{0, []api.Record{opt(0, 0x80<<24, "")}, 2048},
		{1, []api.Record{opt(0, 2<<24, ""), opt(0, 4<<24, "")}, 33}, {1, []api.Record{opt(0, 0, ""), opt(0, 4<<24, "")}, 1},
		{1, []api.Record{{Name: na, Type: 1, TTL: 2 << 24}, opt(0, 3<<24, ""), opt(0, 4<<24, "")}, 49},
		{1, []api.Record{{Name: na, Type: 41, TTL: 5 << 24, Data: api.Data{Raw: "x", Host: na}}, opt(0, 3<<24, "")}, 81},
	} {
		if c := Code(api.Message{Rcode: x.rcode, Extra: x.extra}); c != x.code {
			t.Errorf("Code of %d, %v = %d, not %d", x.rcode, x.extra, c, x.code)
		}
	}
	m := full()
	m.Extra = nil
	if c := Code(m); c != 9 {
		t.Errorf("Code where OPTs stand beside Extra alone: %d", c)
	}
}

// withOPT are the records of Extra that a message with this code and this OPT has, by the chapter's words.
func withOPT(l []api.Record, code uint16, has bool, e api.Edns) []api.Record {
	var out []api.Record
	for _, r := range l {
		if r.Type != 41 {
			out = append(out, r)
		}
	}
	if has {
		out = append(out, opt(e.Size, uint32(code/16)*1<<24+uint32(e.Version)*1<<16+uint32(e.Flags), e.Options))
	}
	return out
}

// sets asks Set, and holds its answer against the chapter's words.
func sets(t *testing.T, m api.Message, code uint16, has bool, e api.Edns) {
	t.Helper()
	want, none := m, api.OK
	want.Rcode, want.Extra = uint8(code%16), withOPT(m.Extra, code, has, e)
	switch _, wrong := Record(e); {
	case code > 4095, code > 15 && !has:
		want, none = api.Message{}, api.ErrArg
	case has && wrong != api.OK:
		want, none = api.Message{}, wrong
	}
	got, no := Set(m, code, has, e)
	if no != none || !same(got, want) {
		t.Errorf("Set(.., %d, %v, %.100v) = %.400v, %v, not %.400v, %v", code, has, e, got, no, want, none)
	}
	if no == api.OK && Code(got) != code {
		t.Errorf("Code of Set(.., %d, %v, %.100v) = %d", code, has, e, Code(got))
	}
	if no != api.OK {
		return
	}
	e.High = uint8(code / 16)
	if found, is, no := Find(got); no != api.OK || is != has || has && found != e || !has && found != (api.Edns{}) {
		t.Errorf("Find of Set(.., %d, %v, %.100v) = %.100v, %v, %v", code, has, e, found, is, no)
	}
}

func TestSet(t *testing.T) { // P7.4, P7.6
	some := append(someEdns(), api.Edns{Options: "\x00"}, api.Edns{Size: 9, Options: strings.Repeat("\x00", 65536)})
	opts := extra(opt(1, 1<<24, ""), opt(2, 2<<24, "x"), api.Record{Name: na, Type: 41, Data: api.Data{Host: na}})
	for _, m := range []api.Message{{}, full(), opts, extra(address(na, "1234"))} {
		for _, e := range some {
			for _, code := range []uint16{0, 1, 5, 15, 16, 17, 255, 256, 2748, 4095, 4096, 4097, 32768, 65535} {
				sets(t, m, code, true, e)
				sets(t, m, code, false, e)
			}
		}
	}
	for code := range 1 << 16 {
		sets(t, full(), uint16(code), true, api.Edns{Size: 512, High: 3, Version: 2, Flags: 0x8000})
		sets(t, full(), uint16(code), false, api.Edns{Options: "x"})
	}
}

func TestSetExamples(t *testing.T) { // P7.4
	m, e := Set(api.Message{ID: 3, Rcode: 7}, api.BadVers, true, api.Edns{Size: 512})
	if e != api.OK || m.ID != 3 || m.Rcode != 0 || len(m.Extra) != 1 || m.Extra[0] != opt(512, 1<<24, "") {
		t.Errorf("BadVers with an OPT: %v, %v", m, e)
	}
	if m, e := Set(full(), api.BadVers, false, api.Edns{}); e != api.ErrArg || !same(m, api.Message{}) {
		t.Errorf("BadVers without an OPT: %v, %v", m, e)
	}
	if m, e := Set(full(), 4096, true, api.Edns{Options: "x"}); e != api.ErrArg || !same(m, api.Message{}) {
		t.Errorf("a code and options that may not be: %v, %v", m, e)
	}
	if m, e := Set(full(), 5, true, api.Edns{Options: "x"}); e != api.ErrOpt || !same(m, api.Message{}) {
		t.Errorf("options that may not be: %v, %v", m, e)
	}
	a, b, c := full().Extra[0], full().Extra[2], full().Extra[3]
	if m, e := Set(full(), 18, true, api.Edns{Size: 9, High: 7, Version: 4, Flags: 5}); e != api.OK || m.Rcode != 2 || !slices.Equal(m.Extra, []api.Record{a, b, c, opt(9, 0x01040005, "")}) {
		t.Errorf("an OPT behind the others: %v, %v", m, e)
	}
	if m, e := Set(full(), 3, false, api.Edns{Options: "x"}); e != api.OK || m.Rcode != 3 || !slices.Equal(m.Extra, []api.Record{a, b, c}) {
		t.Errorf("without an OPT: %v, %v", m, e)
	}
}

// roomy is a copy of l with room behind its end, in which something stands.
func roomy[T any](l []T, beyond T) []T {
	return append(append(make([]T, 0, len(l)+2), l...), beyond, beyond)[:len(l)]
}

// spoil writes into a list, and into the room behind its end.
func spoil[T any](l []T, v T) {
	l = l[:cap(l)]
	for i := range l {
		l[i] = v
	}
}

// spoilAll writes into all lists of a message.
func spoilAll(m api.Message) {
	spoil(m.Questions, api.Question{Type: 77})
	for _, l := range [][]api.Record{m.Answer, m.Authority, m.Extra} {
		spoil(l, address(nb, "spoilt"))
	}
}

func TestSetInNewMemory(t *testing.T) { // P7.4, R3
	beyond := opt(77, 77, "beyond")
	for _, has := range []bool{true, false} {
		for _, at := range []int{0, 1, 4} {
			m := full()
			m.Questions = roomy(m.Questions, api.Question{Type: 99})
			m.Answer, m.Authority, m.Extra = roomy(m.Answer, beyond), roomy(m.Authority, beyond), roomy(m.Extra[:at], beyond)
			before := full()
			before.Extra = before.Extra[:at]
			x, _ := Set(m, 3, has, api.Edns{Size: 9})
			want := before
			want.Rcode, want.Extra = 3, withOPT(before.Extra, 3, has, api.Edns{Size: 9})
			spoilAll(x)
			if !same(m, before) || m.Questions[:3][2].Type != 99 || m.Answer[:4][3] != beyond || m.Authority[:3][2] != beyond || m.Extra[:at+1][at] != beyond {
				t.Errorf("Set changed the message, or its answer shares memory with it: %v", m)
			}
			x, _ = Set(m, 3, has, api.Edns{Size: 9})
			y, _ := Set(m, 3, has, api.Edns{Size: 9})
			spoilAll(y)
			spoilAll(m)
			if !same(x, want) {
				t.Errorf("an answer shares memory: %v", x)
			}
		}
	}
	one := []api.Record{address(na, "1111"), address(na, "2222")}
	x, _ := Set(api.Message{Answer: one, Authority: one, Extra: one}, 0, false, api.Edns{})
	spoil(x.Extra, beyond)
	spoil(x.Authority, address(nb, "spoilt"))
	if !slices.Equal(x.Answer, one) || x.Authority[0].Name != nb || x.Extra[0] != beyond {
		t.Errorf("two lists of one answer share memory: %v", x)
	}
}

func TestOthersChangeNothing(t *testing.T) { // P7.1, P7.4, R3
	m := full()
	m.Extra = roomy(m.Extra, opt(77, 77, "beyond"))
	e, has, no := Find(m)
	if e != (api.Edns{Size: 3, High: 3}) || !has || no != api.OK || Code(m) != 57 {
		t.Errorf("Find and Code = %v, %v, %v, %d", e, has, no, Code(m))
	}
	if !same(m, full()) || m.Extra[:5][4] != opt(77, 77, "beyond") {
		t.Errorf("Find or Code changed the message: %v", m)
	}
}
