package draw

import (
	"math"
	"slices"
	"testing"

	"hearsay/api"
)

// rising are so many numbers, from one on.
func rising(from uint32, n int) []uint32 {
	l := make([]uint32, n)
	for i := range l {
		l[i] = from + uint32(i)
	}
	return l
}

// drawn draws so often.
func drawn(s *Source, n int) []uint32 {
	l := make([]uint32, n)
	for i := range l {
		l[i] = s.Next()
	}
	return l
}

// has holds what is left of a source against what should be, and draws all of it.
func has(t testing.TB, s *Source, want ...uint32) {
	t.Helper()
	if s.Left() != len(want) {
		t.Fatalf("Left = %d, not %d", s.Left(), len(want))
	}
	if l := drawn(s, len(want)); !slices.Equal(l, want) {
		t.Errorf("what is left is %.200v, not %.200v", l, want)
	}
	if s.Left() != 0 {
		t.Errorf("Left = %d once all is drawn", s.Left())
	}
}

// stays holds that a call draws nothing.
func stays(t testing.TB, what string, call func(s *Source)) {
	t.Helper()
	s := New(9, 8)
	call(s)
	if s.Left() != 2 || s.Next() != 9 {
		t.Errorf("%s draws", what)
	}
	s = New()
	call(s)
	if n := s.Next(); n != 1013904223 {
		t.Errorf("%s draws where nothing is left: %d comes behind it", what, n)
	}
}

func TestExamples(t *testing.T) { // P15.1, P15.2, P15.3
	s := New()
	if l := drawn(s, 2); !slices.Equal(l, []uint32{1013904223, 1196435762}) {
		t.Errorf("of no draws: %v", l)
	}
	s = New(5, 7)
	if n := s.Below(3); n != 2 {
		t.Errorf("Below(3) = %d", n)
	}
	if s.Left() != 1 {
		t.Errorf("Left = %d", s.Left())
	}
	if l := drawn(s, 2); !slices.Equal(l, []uint32{7, 1025555898}) {
		t.Errorf("behind 5: %v", l)
	}
	s = New(9)
	if a, left, b := s.Below(0), s.Left(), s.Below(-1); a != 0 || left != 1 || b != 0 {
		t.Errorf("Below(0), Left, Below(-1) = %d, %d, %d", a, left, b)
	}
	if row := New(0, 0).Shuffle(3); !slices.Equal(row, []int{1, 2, 0}) {
		t.Errorf("by 0, 0: %v", row)
	}
	if row := New(2, 1).Shuffle(3); !slices.Equal(row, []int{0, 1, 2}) {
		t.Errorf("by 2, 1: %v", row)
	}
}

func TestNew(t *testing.T) { // P15.1
	has(t, New())
	has(t, New(nil...))
	has(t, New([]uint32{}...))
	has(t, New(0), 0)
	has(t, New(3, 1, 3, math.MaxUint32), 3, 1, 3, math.MaxUint32)
	for _, n := range []int{4095, 4096, 4097, 8192, 100000} {
		l := rising(7, n)
		s := New(l...)
		has(t, s, l[:min(n, 4096)]...)
		if got, want := s.Next(), factor*l[min(n, 4096)-1]+step; got != want {
			t.Errorf("behind all of %d: %d, not %d", n, got, want)
		}
	}
}

func TestAdd(t *testing.T) { // P15.1
	s := New(1)
	s.Add()
	s.Add(2, 3)
	s.Add(4)
	has(t, s, 1, 2, 3, 4)
	s.Add(5, 6)
	s.Next()
	s.Add(7)
	has(t, s, 6, 7)

	s = New(rising(0, 4090)...)
	s.Add(rising(5000, 6)...)
	has(t, s.Copy(), append(rising(0, 4090), rising(5000, 6)...)...)
	s.Add(1, 2)
	has(t, s.Copy(), append(rising(0, 4090), rising(5000, 6)...)...)
	drawn(s, 3)
	s.Add(rising(9000, 100)...)
	has(t, s, slices.Concat(rising(3, 4087), rising(5000, 6), rising(9000, 3))...)

	s = New()
	for i := range 5000 {
		s.Add(uint32(i))
	}
	has(t, s, rising(0, 4096)...)
	s.Add(rising(1, 5000)...)
	has(t, s, rising(1, 4096)...)
}

func TestAddLeavesTheLastOne(t *testing.T) { // P15.1, P15.2
	s := New(7)
	s.Next()
	s.Add()
	if n := s.Next(); n != 1025555898 {
		t.Errorf("behind 7, and Add of none: %d", n)
	}
	s = New(7)
	s.Next()
	s.Add(3)
	if l := drawn(s, 2); l[0] != 3 || l[1] != 3*factor+step {
		t.Errorf("behind 7, and Add of 3: %v", l)
	}
	s = New(9)
	s.Add(rising(1, 4096)...)
	drawn(s, 4096)
	if n := s.Next(); n != 3535166802 {
		t.Errorf("behind 4095, once 4096 was not kept: %d", n)
	}
}

func TestListsAreNotKept(t *testing.T) { // P15.1
	list := []uint32{1, 2, 3, 4, 5}
	s := New(list[:2]...)
	list[0], list[1] = 90, 91
	s.Add(list[2:4]...)
	list[2], list[3] = 92, 93
	has(t, s.Copy(), 1, 2, 3, 4)
	s.Add(6)
	if !slices.Equal(list, []uint32{90, 91, 92, 93, 5}) {
		t.Errorf("what was handed in is %v", list)
	}
	s = New()
	s.Add(list[:3]...)
	s.Add(7)
	if list[3] != 93 {
		t.Error("the room behind what was handed in is written on")
	}
	list[0] = 1
	has(t, s, 90, 91, 92, 7)
}

func TestCopy(t *testing.T) { // P15.1
	s := New(1, 2, 3)
	s.Next()
	c := s.Copy()
	if c == s || c.Left() != 2 {
		t.Fatalf("Copy has %d, and is the same: %v", c.Left(), c == s)
	}
	s.Add(4)
	c.Add(5, 6)
	d := c.Copy()
	s.Add(7)
	c.Next()
	d.Add(8)
	has(t, s, 2, 3, 4, 7)
	has(t, c, 3, 5, 6)
	has(t, d, 2, 3, 5, 6, 8)

	s = New(7)
	s.Next()
	c = s.Copy()
	if a, b := drawn(s, 3), drawn(c, 3); a[0] != 1025555898 || !slices.Equal(a, b) {
		t.Errorf("behind 7: %v, and of the copy %v", a, b)
	}
	c.Add(9)
	if s.Left() != 0 || c.Left() != 1 {
		t.Errorf("what the copy got: %d, %d", s.Left(), c.Left())
	}
	s, c = New(), New().Copy()
	if c == nil || c.Left() != 0 || c.Next() != s.Next() {
		t.Error("a copy of one without draws")
	}
}

func TestCopiesAddApart(t *testing.T) { // P15.1
	// Room that two of them shared would show what the other one added.
	for n := range 70 {
		s := New()
		for i := range n {
			s.Add(uint32(i))
		}
		drawn(s, n/3)
		c, d := s.Copy(), s.Copy()
		s.Add(100)
		c.Add(200)
		d.Add(300, 301)
		s.Add(101)
		c.Add(201)
		rest := rising(uint32(n/3), n-n/3)
		has(t, s, slices.Concat(rest, []uint32{100, 101})...)
		has(t, c, slices.Concat(rest, []uint32{200, 201})...)
		has(t, d, slices.Concat(rest, []uint32{300, 301})...)
	}
}

func TestNext(t *testing.T) { // P15.2
	for _, x := range []struct{ last, next uint32 }{
		{0, 1013904223}, {1, 1015568748}, {7, 1025555898}, {1 << 31, 3161387871}, {1<<31 - 1, 3159723346},
		{1<<32 - 1, 1012239698}, {1013904223, 1196435762}, {1196435762, 3519870697},
	} {
		s := New(x.last)
		if l := drawn(s, 2); l[0] != x.last || l[1] != x.next {
			t.Errorf("New(%d) draws %v, not %d then", x.last, l, x.next)
		}
		s.Add(4)
		if l := drawn(s, 2); l[0] != 4 || l[1] != 1020562323 {
			t.Errorf("behind that, Add(4) draws %v", l)
		}
	}
	if l := drawn(New(), 5); !slices.Equal(l, []uint32{1013904223, 1196435762, 3519870697, 2868466484, 1649599747}) {
		t.Errorf("of no draws: %v", l)
	}
}

func TestBelow(t *testing.T) { // P15.2
	for _, x := range []struct {
		draw    uint32
		n, want int
	}{
		{0, 1, 0}, {5, 1, 0}, {math.MaxUint32, 1, 0}, {0, 7, 0}, {6, 7, 6}, {7, 7, 0}, {8, 7, 1}, {math.MaxUint32, 2, 1},
		{math.MaxUint32, 10, 5}, {1 << 31, 3, 2}, {math.MaxUint32, 1 << 31, 1<<31 - 1}, {math.MaxUint32, 1<<32 - 1, 0},
		{1<<32 - 2, 1<<32 - 1, 1<<32 - 2}, {math.MaxUint32, 1 << 32, 1<<32 - 1}, {math.MaxUint32, 1<<32 + 1, 1<<32 - 1},
		{math.MaxUint32, math.MaxInt, 1<<32 - 1}, {0, math.MaxInt, 0},
	} {
		s := New(x.draw)
		if n := s.Below(x.n); n != x.want || s.Left() != 0 {
			t.Errorf("Below(%d) of %d = %d, not %d; %d are left", x.n, x.draw, n, x.want, s.Left())
		}
		if got, want := s.Next(), x.draw*factor+step; got != want {
			t.Errorf("behind Below(%d) of %d: %d, not %d", x.n, x.draw, got, want)
		}
	}
	s := New()
	if a, b := s.Below(10), s.Below(1000); a != 3 || b != 762 {
		t.Errorf("of no draws: %d, %d", a, b)
	}
}

func TestBelowNothing(t *testing.T) { // P15.2
	for _, n := range []int{0, -1, -7, math.MinInt32, math.MinInt} {
		stays(t, "Below of less than 1", func(s *Source) {
			if got := s.Below(n); got != 0 {
				t.Errorf("Below(%d) = %d", n, got)
			}
		})
	}
}

func TestShuffle(t *testing.T) { // P15.3
	for _, x := range []struct {
		draws []uint32
		want  []int
	}{
		{[]uint32{0}, []int{1, 0}},
		{[]uint32{1}, []int{0, 1}},
		{[]uint32{math.MaxUint32}, []int{0, 1}},
		{[]uint32{0, 0, 0}, []int{1, 2, 3, 0}},
		{[]uint32{3, 2, 1}, []int{0, 1, 2, 3}},
		{[]uint32{1, 0, 1}, []int{2, 3, 0, 1}},
		{[]uint32{2, 0, 1}, []int{3, 1, 0, 2}},
		{[]uint32{1, 1, 0}, []int{2, 0, 3, 1}},
		{[]uint32{6, 4, 9}, []int{0, 3, 1, 2}}, // each is drawn modulo what is open still
	} {
		s := New(slices.Concat(x.draws, []uint32{44})...)
		if row := s.Shuffle(len(x.draws) + 1); !slices.Equal(row, x.want) {
			t.Errorf("by %v: %v, not %v", x.draws, row, x.want)
		}
		if s.Left() != 1 || s.Next() != 44 {
			t.Errorf("by %v: more or fewer are drawn", x.draws)
		}
	}
}

func TestShuffleNothing(t *testing.T) { // P15.3
	for _, n := range []int{math.MinInt, -1, 0, 1} {
		stays(t, "Shuffle of less than 2", func(s *Source) {
			if row := s.Shuffle(n); !slices.Equal(row, make([]int, max(n, 0))) {
				t.Errorf("Shuffle(%d) = %v", n, row)
			}
		})
	}
}

func TestShuffleMany(t *testing.T) { // P15.3
	whole := New(rising(1, 4096)...).Shuffle(4096)
	if len(whole) != 4096 {
		t.Fatalf("Shuffle(4096) has %d", len(whole))
	}
	for _, n := range []int{4097, 1 << 20, math.MaxInt32, math.MaxInt} {
		s := New(rising(1, 4096)...)
		if row := s.Shuffle(n); !slices.Equal(row, whole) {
			t.Errorf("Shuffle(%d) is another row than Shuffle(4096)", n)
		}
		if s.Left() != 1 || s.Next() != 4096 {
			t.Errorf("Shuffle(%d) draws more or fewer than 4095", n)
		}
	}
	if row := New().Shuffle(4095); len(row) != 4095 || slices.Max(row) != 4094 {
		t.Errorf("Shuffle(4095) has %d, up to %d", len(row), slices.Max(row))
	}
}

func TestRowsAreNew(t *testing.T) { // P15.3
	s := New(2, 1, 2, 1)
	row := s.Shuffle(3)
	room := row[:cap(row)]
	for i := range room {
		room[i] = 77
	}
	if again := s.Shuffle(3); !slices.Equal(again, []int{0, 1, 2}) {
		t.Errorf("behind one that was written on: %v", again)
	}
	if row[0] != 77 || row[2] != 77 {
		t.Error("a later row writes on an earlier one")
	}
}

func TestNone(t *testing.T) { // P15.1, P15.2, P15.3
	var s *Source
	s.Add(1, 2)
	s.Add()
	if s.Left() != 0 || s.Next() != 0 || s.Copy() != nil {
		t.Errorf("of nil: %d, %d, %v", s.Left(), s.Next(), s.Copy())
	}
	for _, n := range []int{math.MinInt, -1, 0, 1, 7, math.MaxInt} {
		if got := s.Below(n); got != 0 {
			t.Errorf("Below(%d) of nil = %d", n, got)
		}
	}
	for _, n := range []int{math.MinInt, -1, 0, 1, 2, 7, 4096, 4097, math.MaxInt} {
		row := s.Shuffle(n)
		if len(row) != min(max(n, 0), api.MaxDraws) {
			t.Errorf("Shuffle(%d) of nil has %d", n, len(row))
		}
		for i, v := range row {
			if v != i {
				t.Fatalf("Shuffle(%d) of nil has %d at %d", n, v, i)
			}
		}
	}
}
