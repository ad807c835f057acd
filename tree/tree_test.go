package tree

import (
	"iter"
	"slices"
	"strconv"
	"strings"
	"testing"

	"hearsay/api"
	"hearsay/name"
)

// longest is a name of 255 bytes in 127 labels.
var longest = api.Name(strings.Repeat("\x01a", 127) + "\x00")

// noNames are bytes that are no names.
var noNames = []api.Name{
	"", "a", "a.", "\x01", "\x01a", "\x02a\x00", "\x00\x00", "\x01a\x00\x00", "\x01a\x00\x01b\x00", "\x01A", "\xc0\x00",
	api.Name("\x40" + strings.Repeat("a", 64) + "\x00"), "\x01a" + longest, api.Name(strings.Repeat("\x3f", 70000)),
}

// named is a name by its text, whole.
func named(t testing.TB, text string) api.Name {
	t.Helper()
	n, e := name.Parse(text, api.Root)
	if e != api.OK {
		t.Fatalf("Parse(%q): %v", text, e)
	}
	return n
}

// grown is a tree in which the value of each text's name is its place, from 1 on; each of them is fresh.
func grown(t testing.TB, texts ...string) *Tree[int] {
	t.Helper()
	x := New[int]()
	for i, s := range texts {
		if fresh, e := x.Put(named(t, s), i+1); !fresh || e != api.OK {
			t.Fatalf("Put(%s) = %v, %v", s, fresh, e)
		}
	}
	return x
}

// told are the keys that are told, as texts, each with its value behind it.
func told(seq iter.Seq2[api.Name, int]) []string {
	var l []string
	for n, v := range seq {
		l = append(l, name.Text(n)+" "+strconv.Itoa(v))
	}
	return l
}

// tells holds what is told against what should be.
func tells(t *testing.T, what string, seq iter.Seq2[api.Name, int], want ...string) {
	t.Helper()
	if l := told(seq); !slices.Equal(l, want) {
		t.Errorf("%s tells %q, not %q", what, l, want)
	}
}

func TestPut(t *testing.T) { // P10.1
	x := New[int]()
	for i, p := range []struct {
		n     string
		fresh bool
		size  int
	}{
		{"b.a.", true, 1}, {"a.", true, 2}, {"x.c.a.", true, 3}, {"B.A.", false, 3}, {"X.C.A.", false, 3}, {".", true, 4}, {".", false, 4},
		{"c.a.", true, 5}, {"a\\.b.", true, 6}, {"a.b.", true, 7}, {"b.", true, 8}, {"\\192.", true, 9}, {"\\224.", true, 10}, {"[.", true, 11}, {"{.", true, 12},
		{"@.", true, 13}, {"`.", true, 14}, {"Z.", true, 15}, {"z.", false, 15}, {"\\000.", true, 16}, {"\\000.\\000.", true, 17}, {"A\\000.", true, 18}, {"aa.", true, 19},
	} {
		fresh, e := x.Put(named(t, p.n), i)
		if v, ok := x.Get(named(t, p.n)); fresh != p.fresh || e != api.OK || x.Len() != p.size || v != i || !ok {
			t.Errorf("Put(%s) = %v, %v; then Len %d, Get %d, %v", p.n, fresh, e, x.Len(), v, ok)
		}
	}
	for _, p := range []struct {
		n string
		v int
	}{{"b.a.", 3}, {"a.", 1}, {"x.c.a.", 4}, {".", 6}, {"c.A.", 7}, {"A\\.B.", 8}, {"A.B.", 9}, {"\\192.", 11}, {"\\224.", 12}, {"[.", 13}, {"{.", 14}, {"@.", 15}, {"`.", 16}, {"Z.", 18}} {
		if v, ok := x.Get(named(t, p.n)); v != p.v || !ok {
			t.Errorf("Get(%s) = %d, %v, not %d", p.n, v, ok, p.v)
		}
	}
	for _, s := range []string{"d.", "b.c.a.", "x.x.c.a.", "x.", "x.c.", "c.", "a.a.", "ab.", "\\225.", "a.a\\.b."} {
		if v, ok := x.Get(named(t, s)); v != 0 || ok {
			t.Errorf("Get(%s) = %d, %v", s, v, ok)
		}
	}
}

func TestGetOfAnEmptyName(t *testing.T) { // P10.1
	x := grown(t, "x.c.a.")
	for _, s := range []string{".", "a.", "c.a."} {
		if v, ok := x.Get(named(t, s)); v != 0 || ok {
			t.Errorf("Get(%s) = %d, %v", s, v, ok)
		}
	}
	if fresh, e := x.Put(named(t, "c.A."), 9); !fresh || e != api.OK || x.Len() != 2 {
		t.Errorf("Put at an empty name = %v, %v", fresh, e)
	}
	tells(t, "All", x.All(), "c.a. 9", "x.c.a. 1")
}

func TestPutOfZeros(t *testing.T) { // P10.1
	x := New[[]int]()
	if fresh, e := x.Put("\x01a\x00", nil); !fresh || e != api.OK {
		t.Errorf("Put = %v, %v", fresh, e)
	}
	if fresh, e := x.Put("\x01A\x00", nil); fresh || e != api.OK {
		t.Errorf("Put once more = %v, %v", fresh, e)
	}
	if v, ok := x.Get("\x01a\x00"); v != nil || !ok || x.Len() != 1 || !x.Exists("\x01a\x00") {
		t.Errorf("Get = %v, %v", v, ok)
	}
	for n, v := range x.All() {
		if n != "\x01a\x00" || v != nil {
			t.Errorf("All tells %q, %v", string(n), v)
		}
	}
	if !x.Delete("\x01a\x00") || x.Len() != 0 || x.Exists("\x01a\x00") {
		t.Error("a value that is zero is not deleted")
	}
}

func TestRefused(t *testing.T) { // P10.1
	for _, x := range []*Tree[int]{New[int](), grown(t, "b.a.", "a.", ".")} {
		before, size := told(x.All()), x.Len()
		for _, n := range noNames {
			if fresh, e := x.Put(n, 7); fresh || e != api.ErrName {
				t.Errorf("Put(%.20q) = %v, %v", string(n), fresh, e)
			}
			if v, ok := x.Get(n); v != 0 || ok {
				t.Errorf("Get(%.20q) = %d, %v", string(n), v, ok)
			}
			if x.Delete(n) || x.Exists(n) {
				t.Errorf("%.20q is deleted, or exists", string(n))
			}
			if k, ok := x.Next(n); k != "" || ok {
				t.Errorf("Next(%.20q) = %q, %v", string(n), string(k), ok)
			}
			if k, ok := x.Encloser(n); k != "" || ok {
				t.Errorf("Encloser(%.20q) = %q, %v", string(n), string(k), ok)
			}
			tells(t, "Below of what is no name", x.Below(n))
		}
		if x.Len() != size || !slices.Equal(told(x.All()), before) {
			t.Errorf("what was refused left something: %q", told(x.All()))
		}
	}
}

func TestNil(t *testing.T) { // P10.1, P10.2, P10.3, P10.4
	var x *Tree[int]
	for _, n := range append(slices.Clone(noNames), api.Root, "\x01a\x00", longest) {
		if fresh, e := x.Put(n, 1); fresh || e != api.ErrNil {
			t.Errorf("Put(%.20q) = %v, %v", string(n), fresh, e)
		}
		if v, ok := x.Get(n); v != 0 || ok {
			t.Errorf("Get(%.20q) = %d, %v", string(n), v, ok)
		}
		if x.Delete(n) || x.Exists(n) || x.Len() != 0 {
			t.Errorf("Delete, Exists or Len of %.20q", string(n))
		}
		if k, ok := x.Next(n); k != "" || ok {
			t.Errorf("Next(%.20q) = %q, %v", string(n), string(k), ok)
		}
		if k, ok := x.Encloser(n); k != "" || ok {
			t.Errorf("Encloser(%.20q) = %q, %v", string(n), string(k), ok)
		}
		tells(t, "Below", x.Below(n))
	}
	tells(t, "All", x.All())
}

func TestNew(t *testing.T) { // P10.1
	one, other := New[int](), New[int]()
	one.Put("\x01a\x00", 1)
	for _, x := range []*Tree[int]{other, New[int](), {}} {
		if x.Len() != 0 || x.Exists(api.Root) || x.Exists("\x01a\x00") || x.Delete("\x01a\x00") || x.Delete(api.Root) {
			t.Error("a new tree has a key")
		}
		if k, ok := x.Next(api.Root); k != "" || ok {
			t.Errorf("Next = %q, %v", string(k), ok)
		}
		if k, ok := x.Encloser("\x01a\x00"); k != "" || ok {
			t.Errorf("Encloser = %q, %v", string(k), ok)
		}
		tells(t, "All", x.All())
		if fresh, e := x.Put("\x01b\x00", 2); !fresh || e != api.OK {
			t.Errorf("Put = %v, %v", fresh, e)
		}
		tells(t, "All", x.All(), "b. 2")
	}
	tells(t, "All", one.All(), "a. 1")
}

func TestDelete(t *testing.T) { // P10.1
	x := grown(t, "b.a.", "a.", "x.c.a.", ".", "y.c.a.")
	for _, p := range []struct {
		n    string
		is   bool
		left []string
	}{
		{"c.a.", false, []string{". 4", "a. 2", "b.a. 1", "x.c.a. 3", "y.c.a. 5"}},
		{"d.", false, []string{". 4", "a. 2", "b.a. 1", "x.c.a. 3", "y.c.a. 5"}},
		{"x.x.c.a.", false, []string{". 4", "a. 2", "b.a. 1", "x.c.a. 3", "y.c.a. 5"}},
		{"A.", true, []string{". 4", "b.a. 1", "x.c.a. 3", "y.c.a. 5"}},
		{"a.", false, []string{". 4", "b.a. 1", "x.c.a. 3", "y.c.a. 5"}},
		{"X.c.A.", true, []string{". 4", "b.a. 1", "y.c.a. 5"}},
		{".", true, []string{"b.a. 1", "y.c.a. 5"}},
		{".", false, []string{"b.a. 1", "y.c.a. 5"}},
		{"y.c.a.", true, []string{"b.a. 1"}},
		{"c.a.", false, []string{"b.a. 1"}},
		{"b.a.", true, nil},
		{"b.a.", false, nil},
		{".", false, nil},
	} {
		n := named(t, p.n)
		if is := x.Delete(n); is != p.is || x.Len() != len(p.left) {
			t.Errorf("Delete(%s) = %v, then Len %d", p.n, is, x.Len())
		}
		if v, ok := x.Get(n); v != 0 || ok {
			t.Errorf("Get(%s) = %d, %v", p.n, v, ok)
		}
		tells(t, "All without "+p.n, x.All(), p.left...)
	}
	if fresh, e := x.Put(named(t, "x.C.a."), 9); !fresh || e != api.OK || x.Len() != 1 {
		t.Errorf("Put of what was deleted = %v, %v", fresh, e)
	}
	tells(t, "All", x.All(), "x.c.a. 9")
}

func TestLongestNames(t *testing.T) { // P10.1, P10.2, P10.3, P10.4
	s := strings.Repeat("a", 63)
	wide := api.Name("\x3f" + s + "\x3f" + s + "\x3f" + s + "\x3d" + s[:61] + "\x00")
	x := New[int]()
	x.Put(wide, 1)
	x.Put(api.Name(strings.ToUpper(string(longest))), 2)
	if v, ok := x.Get(longest); v != 2 || !ok || x.Len() != 2 {
		t.Errorf("Get = %d, %v", v, ok)
	}
	if n, ok := x.Next(longest); n != wide || !ok {
		t.Errorf("Next = %q, %v", string(n), ok)
	}
	if n, ok := x.Next(longest[2:]); n != longest || !ok {
		t.Errorf("Next of the name above = %q, %v", string(n), ok)
	}
	if n, ok := x.Encloser("\x01b" + longest[2:]); n != longest[2:] || !ok {
		t.Errorf("Encloser = %q, %v", string(n), ok)
	}
	if !x.Delete(longest) || x.Exists(longest[2:]) || x.Exists("\x01a\x00") || !x.Exists(wide) {
		t.Error("Delete leaves something of the name, or takes too much")
	}
}

func TestAll(t *testing.T) { // P10.2
	rising := []string{
		".", "\\000.", "\\000.\\000.", "1.", "\\@.", "[.", "`.", "a.", "\\000.a.", "*.a.", "b.a.", "a.b.a.", "z.a.", "a\\000.", "ab.", "b.", "a.b.", "z.b.", "ba.", "z.", "{.", "\\192.", "\\224.", "\\255.",
	}
	want := make([]string, len(rising))
	for i, s := range rising {
		want[i] = s + " " + strconv.Itoa(i)
	}
	// Whichever stands first in the row of Puts, the order is one.
	for step := range len(rising) {
		x := New[int]()
		for i := range rising {
			k := (i*5 + step) % len(rising)
			x.Put(named(t, strings.ToUpper(rising[k])), k)
		}
		tells(t, "All", x.All(), want...)
	}
}

func TestBelow(t *testing.T) { // P10.2
	x := grown(t, "b.a.", "a.", "x.c.a.", "ba.", "y.x.c.a.", "c.", "a\\.c.", "xc.a.")
	for _, p := range []struct {
		n    string
		want []string
	}{
		{".", []string{"a. 2", "b.a. 1", "x.c.a. 3", "y.x.c.a. 5", "xc.a. 8", "a\\.c. 7", "ba. 4", "c. 6"}},
		{"A.", []string{"a. 2", "b.a. 1", "x.c.a. 3", "y.x.c.a. 5", "xc.a. 8"}},
		{"c.A.", []string{"x.c.a. 3", "y.x.c.a. 5"}},
		{"X.C.A.", []string{"x.c.a. 3", "y.x.c.a. 5"}},
		{"y.x.c.a.", []string{"y.x.c.a. 5"}},
		{"z.y.x.c.a.", nil},
		{"b.a.", []string{"b.a. 1"}},
		{"d.", nil}, {"b.", nil}, {"d.a.", nil}, {"\\000.", nil}, {"\\255.", nil}, {"a.c.", nil},
		{"c.", []string{"c. 6"}},
	} {
		tells(t, "Below("+p.n+")", x.Below(named(t, p.n)), p.want...)
	}
}

func TestLeftEarlyAndAgain(t *testing.T) { // P10.2
	x := grown(t, "b.a.", "a.", "x.c.a.", "d.a.", ".", "e.")
	want := told(x.All())
	all, below := x.All(), x.Below("\x01a\x00")
	for count := 1; count <= len(want); count++ {
		var l []string
		for n, v := range all {
			l = append(l, name.Text(n)+" "+strconv.Itoa(v))
			if len(l) == count {
				break
			}
		}
		if !slices.Equal(l, want[:count]) {
			t.Errorf("All, left behind %d, tells %q", count, l)
		}
	}
	// A second one who goes through it meanwhile is told as much.
	for n := range all {
		for k := range below {
			if !name.Under(k, "\x01a\x00") {
				t.Errorf("within %q: %q", string(n), string(k))
			}
			break
		}
		tells(t, "All within All", all, want...)
	}
	tells(t, "All once more", all, want...)
	tells(t, "Below once more", below, want[1:5]...)
	first := func(seq iter.Seq2[api.Name, int]) (calls int) {
		seq(func(api.Name, int) bool { calls++; return false })
		return calls
	}
	if first(all) != 1 || first(below) != 1 || first(x.Below("\x01q\x00")) != 0 {
		t.Error("more is told to who has left")
	}
}

func TestWhatThereIsWhenItBegins(t *testing.T) { // P10.2
	x := grown(t, "b.a.", "a.")
	all, below := x.All(), x.Below("\x01B\x01A\x00")
	x.Put("\x01b\x01a\x00", 7)
	x.Put("\x01c\x01b\x01a\x00", 8)
	tells(t, "All of later", all, "a. 2", "b.a. 7", "c.b.a. 8")
	tells(t, "Below of later", below, "b.a. 7", "c.b.a. 8")

	for i, change := range []func(x *Tree[int]){
		func(x *Tree[int]) { x.Put("\x01b\x01a\x00", 9) },
		func(x *Tree[int]) { x.Put("\x01d\x01a\x00", 9) },
		func(x *Tree[int]) { x.Put("\x010\x00", 9); x.Put(api.Root, 9) },
		func(x *Tree[int]) { x.Put("\x01z\x01z\x01z\x00", 9) },
		func(x *Tree[int]) { x.Delete("\x01a\x00") },
		func(x *Tree[int]) { x.Delete("\x01b\x01a\x00") },
		func(x *Tree[int]) { x.Delete("\x01c\x01b\x01a\x00") },
		func(x *Tree[int]) { x.Delete("\x01e\x01a\x00"); x.Delete("\x01f\x00") },
	} {
		changed := grown(t, "a.", "b.a.", "c.b.a.", "e.a.", "f.")
		change(changed)
		for _, of := range []api.Name{api.Root, "\x01a\x00", "\x01b\x01a\x00"} {
			x := grown(t, "a.", "b.a.", "c.b.a.", "e.a.", "f.")
			want := told(x.Below(of))
			var l []string
			for n, v := range x.Below(of) {
				change(x)
				l = append(l, name.Text(n)+" "+strconv.Itoa(v))
			}
			if !slices.Equal(l, want) {
				t.Errorf("the change %d is told by who began ahead of it: %q, not %q", i, l, want)
			}
			tells(t, "All behind it", x.All(), told(changed.All())...)
		}
	}
}

func TestAllDeletedMeanwhile(t *testing.T) { // P10.2
	x := grown(t, "a.", "b.a.", "c.a.", "d.c.a.", "e.", "f.e.")
	var l []string
	for n, v := range x.All() {
		l = append(l, name.Text(n)+" "+strconv.Itoa(v))
		for k := range x.All() {
			if !x.Delete(k) {
				t.Errorf("Delete(%q)", string(k))
			}
		}
		x.Put("\x01z\x01z\x00", len(l))
	}
	if want := []string{"a. 1", "b.a. 2", "c.a. 3", "d.c.a. 4", "e. 5", "f.e. 6"}; !slices.Equal(l, want) {
		t.Errorf("All tells %q", l)
	}
	tells(t, "All", x.All(), "z.z. 6")
}

func TestNext(t *testing.T) { // P10.3
	x := grown(t, "b.a.", "a.", "x.c.a.", "y.x.c.a.", "ba.")
	for _, p := range [][2]string{
		{".", "a."}, {"\\000.", "a."}, {"A.", "b.a."}, {"a.a.", "b.a."}, {"B.a.", "x.c.a."}, {"z.b.a.", "x.c.a."}, {"c.a.", "x.c.a."}, {"w.c.a.", "x.c.a."},
		{"x.c.a.", "y.x.c.a."}, {"x.x.c.a.", "y.x.c.a."}, {"y.x.c.a.", "ba."}, {"z.y.x.c.a.", "ba."}, {"z.x.c.a.", "ba."}, {"y.c.a.", "ba."}, {"d.a.", "ba."}, {"z.d.a.", "ba."},
		{"b.", "ba."}, {"z.b.", "ba."}, {"a\\000.", "ba."}, {"ba.", ""}, {"a.ba.", ""}, {"z.", ""}, {"a.z.", ""}, {"\\255.\\255.", ""}, {"bb.", ""},
	} {
		n, ok := x.Next(named(t, p[0]))
		if name.Text(n) != p[1] || ok != (p[1] != "") {
			t.Errorf("Next(%s) = %q, %v, not %s", p[0], string(n), ok, p[1])
		}
	}
	root := grown(t, ".")
	for _, n := range []api.Name{api.Root, "\x01\x00\x00", "\x01a\x00"} {
		if k, ok := root.Next(n); k != "" || ok {
			t.Errorf("Next(%q) = %q, %v: the root is behind nothing", string(n), string(k), ok)
		}
	}
}

func TestExists(t *testing.T) { // P10.4
	x := grown(t, "b.a.", "x.c.a.", "a\\.d.")
	for _, p := range []struct {
		n  string
		is bool
	}{
		{".", true}, {"a.", true}, {"A.", true}, {"b.a.", true}, {"C.a.", true}, {"X.c.A.", true}, {"A\\.D.", true},
		{"d.", false}, {"d.a.", false}, {"b.", false}, {"c.", false}, {"x.", false}, {"y.c.a.", false}, {"y.x.c.a.", false}, {"a.b.a.", false}, {"a.d.", false}, {"aa.", false}, {"\\000.", false},
	} {
		if x.Exists(named(t, p.n)) != p.is {
			t.Errorf("Exists(%s) is not %v", p.n, p.is)
		}
	}
	x.Delete(named(t, "x.c.a."))
	if x.Exists(named(t, "c.a.")) || !x.Exists(named(t, "a.")) {
		t.Error("an empty name exists as long as there is a key under it")
	}
	if root := grown(t, "."); !root.Exists(api.Root) || root.Exists("\x01a\x00") {
		t.Error("of the root alone")
	}
}

func TestEncloser(t *testing.T) { // P10.4
	x := grown(t, "b.a.", "x.c.a.")
	for _, p := range [][2]string{
		{"y.X.c.a.", "x.c.a."}, {"X.C.A.", "x.c.a."}, {"q.C.a.", "c.a."}, {"C.A.", "c.a."}, {"q.q.q.C.a.", "c.a."}, {"A.", "a."}, {"q.A.", "a."}, {"z.B.A.", "b.a."},
		{"z.", "."}, {"b.", "."}, {"a.b.", "."}, {".", "."}, {"x.c.aa.", "."},
	} {
		n, ok := x.Encloser(named(t, p[0]))
		if name.Text(n) != p[1] || !ok {
			t.Errorf("Encloser(%s) = %q, %v, not %s", p[0], string(n), ok, p[1])
		}
	}
	x.Delete(named(t, "x.c.a."))
	if n, ok := x.Encloser(named(t, "x.c.a.")); n != "\x01a\x00" || !ok {
		t.Errorf("Encloser of what was deleted = %q, %v", string(n), ok)
	}
	x.Delete(named(t, "b.a."))
	if n, ok := x.Encloser(api.Root); n != "" || ok {
		t.Errorf("Encloser, where all was deleted = %q, %v", string(n), ok)
	}
	if n, ok := grown(t, ".").Encloser("\x01A\x00"); n != api.Root || !ok {
		t.Errorf("Encloser of the root alone = %q, %v", string(n), ok)
	}
}
