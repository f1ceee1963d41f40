// Package words is layer 1: see shared/doc/01-words.md.
package words

import (
	"cmp"
	"iter"
	"slices"
	"strconv"
	"strings"

	"gauntlet/api"
)

// MaxRank is the greatest rank.
const MaxRank = 1<<62 - 1

const (
	empty     = "-" // the text of the empty list
	blank     = " " // what separates the numbers of a text
	maxDigits = 9   // digits of 999999999, the greatest number that is read
)

// Check returns the error of a word.
func Check(w []int, inputs int) api.Errno {
	if inputs > api.MaxInputs || len(w) > api.MaxWord {
		return api.ErrLimit
	}
	if inputs < 1 {
		return api.ErrArg
	}
	for _, symbol := range w {
		if symbol < 0 || symbol >= inputs {
			return api.ErrArg
		}
	}
	return api.OK
}

// Compare compares two lists in the order of words.
func Compare(a, b []int) int {
	if c := cmp.Compare(len(a), len(b)); c != 0 {
		return c
	}
	return slices.Compare(a, b)
}

// Prefix reports whether a list is a prefix of another one.
func Prefix(a, b []int) bool {
	return len(a) <= len(b) && slices.Equal(a, b[:len(a)])
}

// Concat returns words one after the other.
func Concat(inputs int, l ...[]int) ([]int, api.Errno) {
	// All words are checked before their lengths are: the error of a word comes first.
	length := 0
	for _, w := range l {
		if e := Check(w, inputs); e != api.OK {
			return nil, e
		}
		length += len(w)
	}
	if length > api.MaxWord {
		return nil, api.ErrLimit
	}
	// Not made by append, which would leave more capacity than length.
	all := make([]int, length)
	at := 0
	for _, w := range l {
		at += copy(all[at:], w)
	}
	return all, api.OK
}

// Next returns the next word.
func Next(w []int, inputs int) ([]int, api.Errno) {
	if e := Check(w, inputs); e != api.OK {
		return nil, e
	}
	next := following(w, inputs)
	if len(next) > api.MaxWord {
		return nil, api.ErrLimit
	}
	return next, api.OK
}

// following returns the list behind a valid word, in new memory. It may have a symbol too many to be a word.
func following(w []int, inputs int) []int {
	next := make([]int, len(w))
	copy(next, w)
	for behind := range len(next) {
		i := len(next) - 1 - behind
		if next[i] < inputs-1 {
			next[i]++
			return next
		}
		next[i] = 0
	}
	return make([]int, len(w)+1)
}

// Rank returns how many words come before a word.
func Rank(w []int, inputs int) (int, api.Errno) {
	if e := Check(w, inputs); e != api.OK {
		return 0, e
	}
	// A rank is a number to the base inputs whose digits are 1 to inputs instead of 0 to inputs - 1, so that words of different lengths have different ranks.
	rank := 0
	for _, symbol := range w {
		digit := symbol + 1
		// The rank never falls as symbols follow: once it is too great, it stays so.
		if rank > (MaxRank-digit)/inputs {
			return 0, api.ErrLimit
		}
		rank = rank*inputs + digit
	}
	return rank, api.OK
}

// At returns the word with a rank.
func At(rank, inputs int) ([]int, api.Errno) {
	if inputs > api.MaxInputs {
		return nil, api.ErrLimit
	}
	if inputs < 1 || rank < 0 || rank > MaxRank {
		return nil, api.ErrArg
	}
	length := 0
	for r := rank; r > 0; r = (r - 1) / inputs {
		// With one input the length is the rank, which would take too long to count.
		if length == api.MaxWord {
			return nil, api.ErrLimit
		}
		length++
	}
	w := make([]int, length)
	for i := length - 1; i >= 0; i-- {
		w[i] = (rank - 1) % inputs
		rank = (rank - 1) / inputs
	}
	return w, api.OK
}

// All yields all words up to a length.
func All(inputs, most int) iter.Seq[[]int] {
	return func(yield func([]int) bool) {
		if inputs < 1 || inputs > api.MaxInputs || most < 0 || most > api.MaxWord {
			return
		}
		w := []int{}
		for len(w) <= most {
			// The next word is made first: a word that is yielded belongs to the loop's body, which may change it.
			next := following(w, inputs)
			if !yield(w) {
				return
			}
			w = next
		}
	}
}

// Text returns the text of a list.
func Text(w []int) string {
	if len(w) == 0 {
		return empty
	}
	parts := make([]string, len(w))
	for i, n := range w {
		parts[i] = strconv.Itoa(n)
	}
	return strings.Join(parts, blank)
}

// Parse returns the word with a text.
func Parse(s string, inputs int) ([]int, api.Errno) {
	if len(s) > api.MaxText {
		return nil, api.ErrLimit
	}
	w, ok := readList(s)
	if !ok {
		return nil, api.ErrForm
	}
	if e := Check(w, inputs); e != api.OK {
		return nil, e
	}
	return w, api.OK
}

// readList returns the list with a text, or false if there is none.
func readList(s string) ([]int, bool) {
	if s == empty {
		return []int{}, true
	}
	parts := strings.Split(s, blank)
	list := make([]int, len(parts))
	for i, part := range parts {
		n, ok := readNumber(part)
		if !ok {
			return nil, false
		}
		list[i] = n
	}
	return list, true
}

// readNumber returns the number with a text, or false if there is none. A library function would also accept signs and leading zeros, which are never written.
func readNumber(s string) (int, bool) {
	if len(s) < 1 || len(s) > maxDigits || len(s) > 1 && s[0] == '0' {
		return 0, false
	}
	n := 0
	for i := range len(s) {
		if s[i] < '0' || s[i] > '9' {
			return 0, false
		}
		n = 10*n + int(s[i]-'0')
	}
	return n, true
}
