package name

import (
	"slices"
	"strings"
	"testing"

	"hearsay/api"
)

// parsed is a name by its text, whole.
func parsed(t *testing.T, text string) api.Name {
	t.Helper()
	n, e := Parse(text, api.Root)
	if e != api.OK {
		t.Fatalf("Parse(%q): %v", text, e)
	}
	return n
}

// noNames are bytes that are no names.
func noNames() []api.Name {
	long := strings.Repeat("\x01a", 127) + "\x00"
	return []api.Name{
		"", "a", "\x01", "\x01a", "\x02a\x00", "\x00\x00", "\x01a\x00\x00", "\x01a\x00\x01b\x00", "\x00\x01a\x00",
		"\x01A", "\xc0\x00", "\xff",
		api.Name("\x40" + strings.Repeat("a", 64) + "\x00"),
		api.Name("\x01a" + long),
		api.Name("\x01" + long),
		api.Name(strings.Repeat("\x01a", 128)),
		api.Name(strings.Repeat("\x00", 300)),
		api.Name(strings.Repeat("\x3f", 70000)),
	}
}

// names are some names, of which several are alike, or under one another.
func names(t *testing.T) []api.Name {
	l := []api.Name{
		api.Root,
		"\x01a\x00", "\x01A\x00", "\x01@\x00", "\x01[\x00", "\x01`\x00", "\x01{\x00", "\x01z\x00", "\x01Z\x00", "\x01\x00\x00", "\x01\xff\x00", "\x01.\x00", "\x01\\\x00", "\x011\x00",
		"\x02ab\x00", "\x02a\x00\x00", "\x02AB\x00", "\x02\x01a\x00", "\x02a.\x00", "\x03a.b\x00", "\x01\xc0\x00", "\x01\xe0\x00",
		"\x01b\x01a\x00", "\x01B\x01A\x00", "\x01\x00\x01a\x00", "\x01\xff\x01a\x00", "\x01a\x01b\x00", "\x01a\x01b\x01a\x00", "\x02ba\x00", "\x01a\x02ab\x00", "\x01*\x01a\x00", "\x03www\x01A\x00",
		api.Name(strings.Repeat("\x01a", 127) + "\x00"),
		api.Name(strings.Repeat("\x01A", 126) + "\x00"),
		api.Name("\x3f" + strings.Repeat("x", 63) + "\x00"),
		api.Name("\x3f" + strings.Repeat("X", 62) + "y\x00"),
		api.Name("\x3e" + strings.Repeat("x", 62) + "\x01a\x00"),
	}
	for _, n := range l {
		if Check(n) != api.OK {
			t.Fatalf("%q is no name", string(n))
		}
	}
	return l
}

// same tells whether the labels are alike, by another way than the package's.
func same(a, b []string) bool {
	return slices.EqualFunc(a, b, func(x, y string) bool {
		return len(x) == len(y) && string(Fold(api.Name(x))) == string(Fold(api.Name(y)))
	})
}

func TestCheck(t *testing.T) { // P1.1
	names(t)
	for _, n := range noNames() {
		if e := Check(n); e != api.ErrName {
			t.Errorf("Check(%.20q) = %v", string(n), e)
		}
	}
	s := strings.Repeat("a", 63)
	long := "\x3f" + s + "\x3f" + s + "\x3f" + s
	if e := Check(api.Name(long + "\x3d" + s[:61] + "\x00")); e != api.OK {
		t.Errorf("255 bytes: %v", e)
	}
	if e := Check(api.Name(long + "\x3e" + s[:62] + "\x00")); e != api.ErrName {
		t.Errorf("256 bytes: %v", e)
	}
}

func TestOf(t *testing.T) { // P1.1
	s := strings.Repeat("a", 63)
	for _, x := range []struct {
		labels []string
		n      api.Name
		e      api.Errno
	}{
		{nil, api.Root, api.OK},
		{[]string{}, api.Root, api.OK},
		{[]string{"www", "a"}, "\x03www\x01a\x00", api.OK},
		{[]string{"W.w\\\x00\xff"}, "\x06W.w\\\x00\xff\x00", api.OK},
		{[]string{s}, api.Name("\x3f" + s + "\x00"), api.OK},
		{[]string{s, s, s, s[:61]}, api.Name("\x3f" + s + "\x3f" + s + "\x3f" + s + "\x3d" + s[:61] + "\x00"), api.OK},
		{slices.Repeat([]string{"a"}, 127), api.Name(strings.Repeat("\x01a", 127) + "\x00"), api.OK},
		{[]string{""}, "", api.ErrLabel},
		{[]string{"a", ""}, "", api.ErrLabel},
		{[]string{s + "a"}, "", api.ErrLabel},
		{[]string{strings.Repeat("a", 1000)}, "", api.ErrLabel},
		{[]string{s, s, s, s}, "", api.ErrLong},
		{[]string{s, s, s, s[:62]}, "", api.ErrLong},
		{slices.Repeat([]string{"a"}, 128), "", api.ErrLong},
		{slices.Repeat([]string{s}, 100000), "", api.ErrLong},
		{[]string{s, s, s, s, "a"}, "", api.ErrLong},
		{[]string{s, s, s, s, "a", ""}, "", api.ErrLabel},
	} {
		given := slices.Clone(x.labels)
		if n, e := Of(given...); n != x.n || e != x.e {
			t.Errorf("Of(%.20q) = %q, %v", x.labels, string(n), e)
		}
		if !slices.Equal(given, x.labels) {
			t.Errorf("Of changed %.20q", x.labels)
		}
	}
}

func TestLabelsAndCount(t *testing.T) { // P1.2
	for _, x := range []struct {
		n      api.Name
		labels []string
	}{
		{api.Root, nil},
		{"\x01a\x00", []string{"a"}},
		{"\x03Www\x01a\x02.\x00\x00", []string{"Www", "a", ".\x00"}},
		{api.Name(strings.Repeat("\x01a", 127) + "\x00"), slices.Repeat([]string{"a"}, 127)},
	} {
		if l := Labels(x.n); !slices.Equal(l, x.labels) {
			t.Errorf("Labels(%q) = %q", string(x.n), l)
		}
		if c := Count(x.n); c != len(x.labels) {
			t.Errorf("Count(%q) = %d", string(x.n), c)
		}
	}
	for _, n := range noNames() {
		if l, c := Labels(n), Count(n); len(l) != 0 || c != 0 {
			t.Errorf("of %.20q: %.20q, %d", string(n), l, c)
		}
	}
	n := parsed(t, "www.a.")
	Labels(n)[0] = "x"
	if l := Labels(n); l[0] != "www" {
		t.Errorf("what was handed out was written to, and is told: %q", l)
	}
}

func TestFold(t *testing.T) { // P1.2
	every := make([]byte, 256)
	for i := range every {
		every[i] = byte(i)
	}
	folded := []byte(Fold(api.Name(every)))
	for i, c := range folded {
		want := byte(i)
		if i >= 65 && i <= 90 {
			want += 32
		}
		if c != want {
			t.Errorf("the byte %d became %d", i, c)
		}
	}
	if len(folded) != 256 {
		t.Errorf("256 bytes became %d", len(folded))
	}
	for _, x := range [][2]api.Name{{"\x01A\x01Z\x00", "\x01a\x01z\x00"}, {"", ""}, {"A", "a"}, {"\x00", "\x00"}} {
		if n := Fold(x[0]); n != x[1] {
			t.Errorf("Fold(%q) = %q", string(x[0]), string(n))
		}
	}
	// Lengths are below the capitals: small letters leave a name a name.
	for _, n := range names(t) {
		if f := Fold(n); Check(f) != api.OK || Count(f) != Count(n) {
			t.Errorf("Fold(%q) = %q", string(n), string(f))
		}
	}
}

func TestUnder(t *testing.T) { // P1.3
	for _, x := range []struct {
		n, zone string
		is      bool
	}{
		{"www.A.", "a.", true}, {"www.a.", "A.", true}, {"a.", "www.a.", false}, {"ba.", "a.", false}, {"a.", ".", true},
		{".", ".", true}, {".", "a.", false}, {"a.", "A.", true}, {"b.a.", "a.b.", false}, {"a.b.", "a.", false}, {"x.ab.", "a.", false},
		{"a\\.b.", "b.", false}, {"\\001a.", "a.", false},
	} {
		if Under(parsed(t, x.n), parsed(t, x.zone)) != x.is {
			t.Errorf("Under(%s, %s) is not %v", x.n, x.zone, x.is)
		}
	}
	for _, n := range noNames() {
		if Under(n, n) || Under(n, api.Root) || Under(api.Root, n) || Under("\x01a\x00", n) {
			t.Errorf("%.20q, which is no name, is under something, or something is under it", string(n))
		}
	}
}

func TestParentAndLast(t *testing.T) { // P1.3
	n := parsed(t, "Www.b.A.")
	for _, x := range []struct {
		n    api.Name
		k    int
		last string
	}{
		{n, 0, "."}, {n, 1, "A."}, {n, 2, "b.A."}, {n, 3, "Www.b.A."}, {api.Root, 0, "."},
	} {
		if l, ok := Last(x.n, x.k); !ok || Text(l) != x.last {
			t.Errorf("Last(%q, %d) = %q, %v", string(x.n), x.k, string(l), ok)
		}
	}
	for _, x := range []struct {
		n api.Name
		k int
	}{{n, 4}, {n, -1}, {n, 1 << 62}, {n, -1 << 63}, {api.Root, 1}, {api.Root, -1}} {
		if l, ok := Last(x.n, x.k); ok || l != "" {
			t.Errorf("Last(%q, %d) = %q, %v", string(x.n), x.k, string(l), ok)
		}
	}
	if p, ok := Parent(n); !ok || Text(p) != "b.A." {
		t.Errorf("Parent = %q, %v", string(p), ok)
	}
	if p, ok := Parent("\x01a\x00"); !ok || p != api.Root {
		t.Errorf("Parent(a.) = %q, %v", string(p), ok)
	}
	if p, ok := Parent(api.Root); ok || p != "" {
		t.Errorf("Parent(root) = %q, %v", string(p), ok)
	}
	for _, n := range noNames() {
		if p, ok := Parent(n); ok || p != "" {
			t.Errorf("Parent(%.20q) = %q, %v", string(n), string(p), ok)
		}
		for k := -1; k < 3; k++ {
			if l, ok := Last(n, k); ok || l != "" {
				t.Errorf("Last(%.20q, %d) = %q, %v", string(n), k, string(l), ok)
			}
		}
	}
}

func TestJoin(t *testing.T) { // P1.4
	for _, x := range [][3]string{
		{".", ".", "."}, {".", "a.", "a."}, {"a.", ".", "a."}, {"W.a.", "B.c.", "W.a.B.c."}, {"a.", "a.", "a.a."},
	} {
		if n, e := Join(parsed(t, x[0]), parsed(t, x[1])); e != api.OK || n != parsed(t, x[2]) {
			t.Errorf("Join(%s, %s) = %q, %v", x[0], x[1], string(n), e)
		}
	}
	long := api.Name(strings.Repeat("\x01a", 126) + "\x00") // 253 bytes
	if n, e := Join("\x01b\x00", long); e != api.OK || len(n) != 255 {
		t.Errorf("255 bytes: %v", e)
	}
	for _, x := range [][2]api.Name{{"\x02bb\x00", long}, {long, "\x02bb\x00"}, {long, long}} {
		if n, e := Join(x[0], x[1]); e != api.ErrLong || n != "" {
			t.Errorf("256 bytes and more: %q, %v", string(n), e)
		}
	}
	for _, no := range noNames() {
		for _, x := range [][2]api.Name{{no, api.Root}, {api.Root, no}, {no, no}, {long, no}, {no, long}} {
			if n, e := Join(x[0], x[1]); e != api.ErrName || n != "" {
				t.Errorf("Join(%.20q, %.20q) = %q, %v", string(x[0]), string(x[1]), string(n), e)
			}
		}
	}
}

func TestWild(t *testing.T) { // P1.4
	for _, x := range [][2]api.Name{
		{api.Root, "\x01*\x00"}, {"\x01A\x00", "\x01*\x01A\x00"}, {"\x01*\x00", "\x01*\x01*\x00"},
		{api.Name(strings.Repeat("\x01a", 126) + "\x00"), api.Name("\x01*" + strings.Repeat("\x01a", 126) + "\x00")},
	} {
		if n, e := Wild(x[0]); e != api.OK || n != x[1] {
			t.Errorf("Wild(%q) = %q, %v", string(x[0]), string(n), e)
		}
	}
	for _, long := range []string{strings.Repeat("\x01a", 127), "\x02bb" + strings.Repeat("\x01a", 125)} {
		if n, e := Wild(api.Name(long + "\x00")); e != api.ErrLong || n != "" {
			t.Errorf("of %d bytes: %q, %v", len(long)+1, string(n), e)
		}
	}
	for _, no := range noNames() {
		if n, e := Wild(no); e != api.ErrName || n != "" {
			t.Errorf("Wild(%.20q) = %q, %v", string(no), string(n), e)
		}
	}
}

func TestCmp(t *testing.T) { // P1.5
	rising := []string{
		".", "\\000.", "\\000.\\000.", "1.", "@.", "[.", "`.", "A.", "\\000.a.", "*.a.", "B.a.", "z.A.", "a\\000.", "aB.", "b.", "a.b.", "Z.b.", "ba.", "z.", "\\{.", "\\255.",
	}
	for i, a := range rising {
		for k, b := range rising {
			want := 0
			if i < k {
				want = -1
			} else if i > k {
				want = 1
			}
			if c := Cmp(parsed(t, a), parsed(t, b)); c != want {
				t.Errorf("Cmp(%s, %s) = %d", a, b, c)
			}
		}
	}
	for _, x := range [][2]string{{"A.", "a."}, {"wWw.b.", "Www.B."}} {
		if c := Cmp(parsed(t, x[0]), parsed(t, x[1])); c != 0 {
			t.Errorf("Cmp(%s, %s) = %d", x[0], x[1], c)
		}
	}
}

func TestCmpOfWhatIsNoName(t *testing.T) { // P1.5
	no := noNames()
	for _, a := range no {
		for _, n := range names(t) {
			if Cmp(a, n) != 1 || Cmp(n, a) != -1 {
				t.Errorf("%.20q, which is no name, is not behind %q", string(a), string(n))
			}
		}
		for _, b := range no {
			if c := Cmp(a, b); c != strings.Compare(string(a), string(b)) {
				t.Errorf("Cmp(%.20q, %.20q) = %d", string(a), string(b), c)
			}
		}
	}
	if Cmp("\x01A", "\x01a") != -1 || Cmp("\x01a", "\x01ab") != -1 || Cmp("", "a") != -1 {
		t.Error("what is no name stands byte by byte, capitals as they are, a text ahead of those that it begins")
	}
}

func TestWhatFollowsOfTheOrder(t *testing.T) { // P1.8
	l := append(names(t), noNames()...)
	for _, a := range l {
		for _, b := range l {
			ab := Cmp(a, b)
			if ab != -Cmp(b, a) {
				t.Errorf("%.20q, %.20q: turned round the sign is not the other one", string(a), string(b))
			}
			if Check(a) == api.OK && Check(b) == api.OK && (ab == 0) != same(Labels(a), Labels(b)) {
				t.Errorf("Cmp(%q, %q) = %d", string(a), string(b), ab)
			}
			for _, c := range l {
				if bc := Cmp(b, c); ab < 0 && bc < 0 && Cmp(a, c) >= 0 || ab == 0 && Cmp(a, c) != bc {
					t.Errorf("no order: %.20q, %.20q, %.20q", string(a), string(b), string(c))
				}
			}
		}
	}
}

func TestWhatFollowsOfUnder(t *testing.T) { // P1.8
	l := names(t)
	for _, n := range l {
		for _, zone := range l {
			found := false
			for k := 0; k <= Count(n); k++ {
				last, ok := Last(n, k)
				found = found || ok && same(Labels(last), Labels(zone))
			}
			if Under(n, zone) != found {
				t.Errorf("Under(%q, %q) is not %v", string(n), string(zone), found)
			}
			if Under(n, zone) && Cmp(n, zone) < 0 {
				t.Errorf("%q is under %q and ahead of it", string(n), string(zone))
			}
			if j, e := Join(n, zone); e == api.OK && (!Under(j, zone) || !slices.Equal(Labels(j), append(Labels(n), Labels(zone)...))) {
				t.Errorf("Join(%q, %q) = %q", string(n), string(zone), string(j))
			}
		}
	}
}
