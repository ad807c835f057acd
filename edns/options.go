package edns

import "iter"

// frontSize is how many bytes of an option stand ahead of its own: its number, and how many these are.
const frontSize = 4

// option is one of an OPT's options.
type option struct {
	number uint16
	bytes  string
}

// Options are an OPT's options.
func Options(s string) ([]uint16, []string, bool) {
	var numbers []uint16
	var texts []string
	whole := tell(s, func(o option) {
		numbers = append(numbers, o.number)
		texts = append(texts, o.bytes)
	})
	if !whole {
		return nil, nil, false
	}
	return numbers, texts, true
}

// mayBe tells whether options may be.
func mayBe(s string) bool { return tell(s, func(option) {}) }

// tell hands each option on, in order, and answers whether nothing is left over.
func tell(s string, put func(option)) bool {
	left := s
	for o, behind := range through(s) {
		put(o)
		left = behind
	}
	return left == ""
}

// through goes through options from the front on: it tells each of them, and what is left over behind it. It ends where none is whole.
func through(s string) iter.Seq2[option, string] {
	return func(yield func(option, string) bool) {
		left := s
		for {
			o, behind, whole := first(left)
			if !whole || !yield(o, behind) {
				return
			}
			left = behind
		}
	}
}

// first is the option with which s begins, and what stands behind it; false, if s does not begin with a whole one.
func first(s string) (option, string, bool) {
	if len(s) < frontSize {
		return option{}, "", false
	}
	number, size, rest := pair(s[0], s[1]), int(pair(s[2], s[3])), s[frontSize:]
	if size > len(rest) {
		return option{}, "", false
	}
	return option{number: number, bytes: rest[:size]}, rest[size:], true
}

// pair is the number of 16 bits that two bytes are.
func pair(high, low byte) uint16 { return uint16(high)<<8 | uint16(low) }
