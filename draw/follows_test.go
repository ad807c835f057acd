package draw

import (
	"encoding/binary"
	"math"
	"math/rand"
	"slices"
	"strconv"
	"strings"
	"testing"
)

// model is a source by the chapter's words.
type model struct {
	left []uint64
	last uint64
}

// add is Add by the chapter's words.
func (m *model) add(list ...uint32) {
	for _, v := range list {
		if len(m.left) < 4096 {
			m.left = append(m.left, uint64(v))
		}
	}
}

// next is Next by the chapter's words.
func (m *model) next() uint32 {
	if len(m.left) == 0 {
		m.last = (1664525*m.last + 1013904223) % (1 << 32)
	} else {
		m.last = m.left[0]
		m.left = slices.Delete(m.left, 0, 1)
	}
	return uint32(m.last)
}

// below is Below by the chapter's words.
func (m *model) below(n int) int {
	if n < 1 {
		return 0
	}
	return int(m.next()) % n
}

// shuffle is Shuffle by the chapter's words.
func (m *model) shuffle(n int) []int {
	var row []int
	for i := 0; i < n && i < 4096; i++ {
		row = append(row, i)
	}
	for i := len(row) - 1; i >= 1; i-- {
		j := m.below(i + 1)
		at, there := row[i], row[j]
		row[i], row[j] = there, at
	}
	return row
}

// copied is Copy by the chapter's words.
func (m *model) copied() *model { return &model{slices.Clone(m.left), m.last} }

// pair is a source and its model.
type pair struct {
	s *Source
	m *model
}

// drawnBound is a number, often one that matters.
func drawnBound(draws *rand.Rand) int {
	switch draws.Intn(10) {
	case 0:
		return []int{math.MinInt, -1, 0, 1, 1<<32 - 1, 1 << 32, 1<<32 + 1, math.MaxInt}[draws.Intn(8)]
	case 1:
		return 4094 + draws.Intn(5)
	}
	return draws.Intn(50)
}

// drawnList are some draws, seldom very many.
func drawnList(draws *rand.Rand) []uint32 {
	n := draws.Intn(12)
	if draws.Intn(30) == 0 {
		n = 4000 + draws.Intn(200)
	}
	l := make([]uint32, n)
	for i := range l {
		l[i] = draws.Uint32()
	}
	return l
}

// step does one thing to a source and its model, and holds what they answer against each other.
func (p pair) step(t *testing.T, draws *rand.Rand) {
	t.Helper()
	switch draws.Intn(5) {
	case 0:
		l := drawnList(draws)
		p.s.Add(l...)
		p.m.add(l...)
		clear(l)
	case 1:
		if a, b := p.s.Next(), p.m.next(); a != b {
			t.Fatalf("Next = %d, not %d", a, b)
		}
	case 2, 3:
		n := drawnBound(draws)
		if a, b := p.s.Below(n), p.m.below(n); a != b {
			t.Fatalf("Below(%d) = %d, not %d", n, a, b)
		}
	case 4:
		n := drawnBound(draws)
		if a, b := p.s.Shuffle(n), p.m.shuffle(n); !slices.Equal(a, b) {
			t.Fatalf("Shuffle(%d) = %.200v, not %.200v", n, a, b)
		}
	}
	p.agree(t)
}

// agree holds what is left of a source against its model.
func (p pair) agree(t *testing.T) {
	t.Helper()
	if p.s.Left() != len(p.m.left) {
		t.Fatalf("Left = %d, not %d", p.s.Left(), len(p.m.left))
	}
}

func TestAgainstTheWords(t *testing.T) { // P15.1, P15.2, P15.3
	draws := rand.New(rand.NewSource(1))
	full, none := 0, 0
	for range 60 {
		l := drawnList(draws)
		m := &model{}
		m.add(l...)
		all := []pair{{New(l...), m}}
		for range 100 {
			p := all[draws.Intn(len(all))]
			p.step(t, draws)
			if len(all) < 5 && draws.Intn(10) == 0 {
				all = append(all, pair{p.s.Copy(), p.m.copied()})
			}
			if p.s.Left() == 4096 {
				full++
			}
			if p.s.Left() == 0 {
				none++
			}
		}
		for _, p := range all {
			p.agree(t)
			for range len(p.m.left) + 3 {
				if a, b := p.s.Next(), p.m.next(); a != b {
					t.Fatalf("at the end Next = %d, not %d", a, b)
				}
			}
		}
	}
	if full < 50 || none < 50 {
		t.Errorf("full %d times, without draws %d times", full, none)
	}
}

// once holds that each number below n stands in a row, just once.
func once(t *testing.T, row []int, n int) {
	t.Helper()
	met := make([]bool, n)
	for _, v := range row {
		if v < 0 || v >= n || met[v] {
			t.Fatalf("%d stands in a row of %d: %.200v", v, n, row)
		}
		met[v] = true
	}
	if len(row) != n {
		t.Fatalf("a row of %d has %d", n, len(row))
	}
}

func TestEachNumberOnce(t *testing.T) { // P15.4
	draws := rand.New(rand.NewSource(2))
	for range 30 {
		s := New(drawnList(draws)...)
		for n := range 60 {
			once(t, s.Shuffle(n), n)
		}
		once(t, s.Shuffle(4095), 4095)
		once(t, s.Shuffle(4096), 4096)
		once(t, s.Shuffle(5000), 4096)
	}
}

// rows are all rows of draws of which the first is below n, the next below n - 1, and so on.
func rows(n int) [][]uint32 {
	all := [][]uint32{nil}
	for below := n; below >= 1; below-- {
		var longer [][]uint32
		for _, l := range all {
			for v := range below {
				longer = append(longer, append(slices.Clone(l), uint32(v)))
			}
		}
		all = longer
	}
	return all
}

// asText is a row as a map can have it.
func asText(row []int) string {
	var s strings.Builder
	for _, v := range row {
		s.WriteString(strconv.Itoa(v) + " ")
	}
	return s.String()
}

func TestEachRowOnce(t *testing.T) { // P15.4
	many := 1
	for n := range 9 {
		many *= max(n, 1)
		met := map[string]int{}
		for _, l := range rows(n) {
			s := New(l...)
			row := s.Shuffle(n)
			once(t, row, n)
			if s.Left() != min(n, 1) {
				t.Fatalf("Shuffle(%d) leaves %d of %d", n, s.Left(), len(l))
			}
			if met[asText(row)]++; met[asText(row)] > 1 {
				t.Fatalf("%v comes out twice, by %v too", row, l)
			}
		}
		if len(met) != many {
			t.Errorf("%d rows of %d numbers, not %d", len(met), n, many)
		}
	}
}

// FuzzSource does by the bytes that it is given: what is told is held against the chapter's words.
func FuzzSource(f *testing.F) {
	f.Add([]byte("\x00\x00\x00\x05\x01\x00\x00\x03\x02\x00\x00\x03\x03\x00\x00\x05\x04\x00\x00\x00\x01\x00\x00\x00"))
	f.Add([]byte("\x05\x0f\xff\xff\x03\x00\x10\x01\x04\x00\x00\x00\x00\xff\xff\xff\x02\xff\xff\xff\x01\x00\x00\x00"))
	f.Fuzz(func(t *testing.T, steps []byte) {
		if len(steps) > 2000 {
			return
		}
		p := pair{New(), &model{}}
		for ; len(steps) >= 4; steps = steps[4:] {
			v := binary.BigEndian.Uint32(steps)
			n := int(int32(v<<8)) >> 8
			switch steps[0] % 6 {
			case 0:
				p.s.Add(v, v+1)
				p.m.add(v, v+1)
			case 1:
				if a, b := p.s.Next(), p.m.next(); a != b {
					t.Fatalf("Next = %d, not %d", a, b)
				}
			case 2:
				if a, b := p.s.Below(n), p.m.below(n); a != b {
					t.Fatalf("Below(%d) = %d, not %d", n, a, b)
				}
			case 3:
				if a, b := p.s.Shuffle(n), p.m.shuffle(n); !slices.Equal(a, b) {
					t.Fatalf("Shuffle(%d) = %v, not %v", n, a, b)
				}
			case 4:
				p.s.Copy().Add(1, 2, 3)
				p = pair{p.s.Copy(), p.m.copied()}
			case 5:
				l := rising(v, n&8191)
				p.s.Add(l...)
				p.m.add(l...)
			}
			p.agree(t)
		}
	})
}
