package tree

import (
	"maps"
	"math/rand"
	"slices"
	"strings"
	"testing"

	"hearsay/api"
	"hearsay/name"
)

// universe are all names of at most three labels out of these: many of them alike, under one another, or side by side.
func universe(t testing.TB) []api.Name {
	labels := []string{"a", "A", "b", "a\x00", "*", "\xff"}
	level := []api.Name{api.Root}
	all := slices.Clone(level)
	for range 3 {
		var next []api.Name
		for _, n := range level {
			for _, l := range labels {
				longer, e := name.Of(append([]string{l}, name.Labels(n)...)...)
				if e != api.OK {
					t.Fatal(e)
				}
				next = append(next, longer)
			}
		}
		all = append(all, next...)
		level = next
	}
	return all
}

// lower is a name in small letters, by another way than the package's. (These names have no other letters.)
func lower(n api.Name) api.Name { return api.Name(strings.ReplaceAll(string(n), "A", "a")) }

// upper is a name with its letters a as A.
func upper(n api.Name) api.Name { return api.Name(strings.ReplaceAll(string(n), "a", "A")) }

// backward are a name's labels from the last one on: held against each other they are the order of names.
func backward(n api.Name) []string {
	l := name.Labels(lower(n))
	slices.Reverse(l)
	return l
}

// under tells whether n is at or under zone.
func under(n, zone api.Name) bool {
	l, z := backward(n), backward(zone)
	return len(l) >= len(z) && slices.Equal(l[:len(z)], z)
}

// model is a tree by another way: a map, of which each thing is asked anew.
type model map[api.Name]int

// keys are its keys, in order.
func (m model) keys() []api.Name {
	return slices.SortedFunc(maps.Keys(m), func(a, b api.Name) int { return slices.Compare(backward(a), backward(b)) })
}

// below are those at or under a name.
func (m model) below(n api.Name) []api.Name {
	return slices.DeleteFunc(m.keys(), func(k api.Name) bool { return !under(k, n) })
}

// next is the first one behind a name.
func (m model) next(n api.Name) (api.Name, bool) {
	for _, k := range m.keys() {
		if slices.Compare(backward(k), backward(n)) > 0 {
			return k, true
		}
	}
	return "", false
}

// encloser is the lowest name, from n upwards, that has keys at or under it.
func (m model) encloser(n api.Name) (api.Name, bool) {
	for k := name.Count(n); k >= 0; k-- {
		if up, _ := name.Last(lower(n), k); len(m.below(up)) > 0 {
			return up, true
		}
	}
	return "", false
}

// agree holds all that the tree tells of a name against the model.
func agree(t *testing.T, x *Tree[int], m model, n api.Name) {
	t.Helper()
	v, ok := x.Get(n)
	if want, is := m[lower(n)]; v != want || ok != is {
		t.Fatalf("Get(%q) = %d, %v, not %d, %v", string(n), v, ok, want, is)
	}
	if is := len(m.below(n)) > 0; x.Exists(n) != is {
		t.Fatalf("Exists(%q) is not %v", string(n), is)
	}
	k, ok := x.Next(n)
	if want, is := m.next(n); k != want || ok != is {
		t.Fatalf("Next(%q) = %q, %v, not %q, %v", string(n), string(k), ok, string(want), is)
	}
	k, ok = x.Encloser(n)
	if want, is := m.encloser(n); k != want || ok != is {
		t.Fatalf("Encloser(%q) = %q, %v, not %q, %v", string(n), string(k), ok, string(want), is)
	}
	var l []api.Name
	for k, v := range x.Below(n) {
		if v != m[k] {
			t.Fatalf("Below(%q) tells %q, %d, not %d", string(n), string(k), v, m[k])
		}
		l = append(l, k)
	}
	if want := m.below(n); !slices.Equal(l, want) {
		t.Fatalf("Below(%q) tells %q, not %q", string(n), l, want)
	}
}

func TestAgainstAMap(t *testing.T) { // P10.1, P10.2, P10.3, P10.4
	draws := rand.New(rand.NewSource(1))
	all := universe(t)
	for _, most := range []int{3, 12, 60} {
		x, m := New[int](), model{}
		for i := range 600 {
			n := all[draws.Intn(len(all))]
			_, there := m[lower(n)]
			if draws.Intn(most) >= len(m) {
				m[lower(n)] = i
				if fresh, e := x.Put(n, i); fresh == there || e != api.OK {
					t.Fatalf("Put(%q) = %v, %v", string(n), fresh, e)
				}
			} else {
				if draws.Intn(2) == 0 {
					n = upper(m.keys()[draws.Intn(len(m))])
					there = true
				}
				delete(m, lower(n))
				if is := x.Delete(n); is != there {
					t.Fatalf("Delete(%q) = %v", string(n), is)
				}
			}
			if x.Len() != len(m) {
				t.Fatalf("Len = %d, not %d", x.Len(), len(m))
			}
			agree(t, x, m, n)
			agree(t, x, m, all[draws.Intn(len(all))])
			agree(t, x, m, api.Root)
		}
	}
}

// some are trees of keys out of the universe: none, one, few, many, and one from which much was deleted.
func some(t *testing.T) []*Tree[int] {
	draws := rand.New(rand.NewSource(2))
	all := universe(t)
	var l []*Tree[int]
	for _, count := range []int{0, 1, 2, 5, 20, 100} {
		x, thin := New[int](), New[int]()
		for i := range count {
			n := all[draws.Intn(len(all))]
			x.Put(n, i)
			thin.Put(n, i)
		}
		for n, v := range thin.All() {
			if v%4 > 0 {
				thin.Delete(n)
			}
		}
		l = append(l, x, thin)
	}
	only := New[int]()
	only.Put(api.Root, 1)
	return append(l, only)
}

// keysOf are a tree's keys, as All tells them.
func keysOf(x *Tree[int]) []api.Name {
	var l []api.Name
	for n := range x.All() {
		l = append(l, n)
	}
	return l
}

func TestWhatFollowsOfBelow(t *testing.T) { // P10.5
	for _, x := range some(t) {
		keys := keysOf(x)
		for _, n := range universe(t) {
			var l []api.Name
			for k := range x.Below(n) {
				l = append(l, k)
			}
			from := slices.IndexFunc(keys, func(k api.Name) bool { return name.Cmp(k, n) >= 0 })
			if len(l) > 0 && (from < 0 || from+len(l) > len(keys) || !slices.Equal(keys[from:from+len(l)], l)) {
				t.Fatalf("Below(%q) tells %q, which do not stand side by side from there on in %q", string(n), l, keys)
			}
		}
	}
}

func TestWhatFollowsOfNext(t *testing.T) { // P10.3, P10.5
	for _, x := range some(t) {
		for _, n := range universe(t) {
			_, key := x.Get(n)
			next, ok := x.Next(n)
			if x.Exists(n) != (key || ok && name.Under(next, n)) {
				t.Fatalf("Exists(%q) is %v; a key: %v; Next %q", string(n), x.Exists(n), key, string(next))
			}
		}
		if x.Exists(api.Root) != (x.Len() > 0) {
			t.Fatalf("Exists(root), of %d keys", x.Len())
		}
		// From key to key Next tells what All does.
		var l []api.Name
		if _, ok := x.Get(api.Root); ok {
			l = append(l, api.Root)
		}
		for n, ok := x.Next(api.Root); ok; n, ok = x.Next(n) {
			l = append(l, n)
		}
		if keys := keysOf(x); !slices.Equal(l, keys) || len(l) != x.Len() {
			t.Fatalf("Next by Next: %q, not %q", l, keys)
		}
	}
}

func TestWhatFollowsOfEncloser(t *testing.T) { // P10.4, P10.5
	for _, x := range some(t) {
		for _, n := range universe(t) {
			top, ok := x.Encloser(n)
			if ok != (x.Len() > 0) || ok && (!name.Under(n, top) || !x.Exists(top) || top != name.Fold(top)) {
				t.Fatalf("Encloser(%q) = %q, %v", string(n), string(top), ok)
			}
			for k := 0; ok && k <= name.Count(n); k++ {
				if up, _ := name.Last(n, k); x.Exists(up) != (k <= name.Count(top)) {
					t.Fatalf("Encloser(%q) = %q, and %q exists: %v", string(n), string(top), string(up), x.Exists(up))
				}
			}
		}
	}
}

func TestManyKeys(t *testing.T) { // P10.1, P10.2, P10.3
	const count = 20000
	draws := rand.New(rand.NewSource(3))
	x := New[int]()
	for _, i := range draws.Perm(count) {
		x.Put(numbered(i), i)
	}
	i := 0
	for n, v := range x.Below("\x01E\x00") {
		if n != numbered(i) || v != i {
			t.Fatalf("the key %d is %q, %d", i, string(n), v)
		}
		if next, ok := x.Next(n); ok != (i+1 < count) || ok && next != numbered(i+1) {
			t.Fatalf("Next(%q) = %q, %v", string(n), string(next), ok)
		}
		i++
	}
	for _, k := range draws.Perm(count) {
		if !x.Delete(numbered(k)) {
			t.Fatalf("Delete(%q)", string(numbered(k)))
		}
	}
	if i != count || x.Len() != 0 || x.Exists(api.Root) {
		t.Errorf("%d keys were told, %d are left", i, x.Len())
	}
}

// numbered is a name under e. that rises with its number, at most 26^3 of them side by side.
func numbered(i int) api.Name {
	digits := []byte{byte('a' + i/26/26/26), byte('a' + i/26/26%26), byte('a' + i/26%26), byte('a' + i%26)}
	return api.Name("\x04" + string(digits) + "\x01e\x00")
}

// FuzzTree does to a tree what bytes say, with any bytes as names, and asks it against a map.
func FuzzTree(f *testing.F) {
	f.Add("p\x01a\x00", "p\x01b\x01A\x00", "d\x01a\x00")
	f.Add("p\x00", "p\x01a", "d\x00")
	f.Add("p\x02a\x00\x00", "d\x02a\x00\x00", "p\xc0\x00")
	f.Fuzz(func(t *testing.T, a, b, c string) {
		x, m := New[int](), model{}
		for i, s := range []string{a, b, c} {
			if s == "" {
				continue
			}
			n := api.Name(s[1:])
			_, there := m[name.Fold(n)]
			is := name.Check(n) == api.OK
			if s[0] == 'd' {
				if x.Delete(n) != there {
					t.Errorf("Delete(%q) is not %v", string(n), there)
				}
				delete(m, name.Fold(n))
			} else if fresh, e := x.Put(n, i); fresh != (is && !there) || (e == api.OK) != is {
				t.Errorf("Put(%q) = %v, %v", string(n), fresh, e)
			} else if is {
				m[name.Fold(n)] = i
			}
			x.Next(n)
			x.Encloser(n)
			if x.Len() != len(m) || x.Exists(n) && !is {
				t.Errorf("Len = %d; Exists(%q) = %v", x.Len(), string(n), x.Exists(n))
			}
		}
		last := api.Name("")
		for n, v := range x.All() {
			if v != m[n] || last != "" && name.Cmp(last, n) >= 0 || !x.Exists(n) {
				t.Errorf("All tells %q, %d behind %q", string(n), v, string(last))
			}
			last = n
		}
	})
}
