// Package lists contains lists of words for the tests of several layers, and what the definitions make of them. The program itself does not use it.
package lists

import (
	"math"
	"slices"
	"strings"

	"gauntlet/api"
	"gauntlet/samples"
	"gauntlet/words"
)

// Of reads words in the way of the chapter's examples; of the empty text there are none.
func Of(s string) [][]int {
	l := [][]int{}
	if s == "" {
		return l
	}
	for _, part := range strings.Split(s, ", ") {
		w, e := words.Parse(part, api.MaxInputs)
		if e != api.OK {
			panic(part)
		}
		l = append(l, w)
	}
	return l
}

// Text is the inverse of Of.
func Text(l [][]int) string {
	parts := make([]string, len(l))
	for n, w := range l {
		parts[n] = words.Text(w)
	}
	return strings.Join(parts, ", ")
}

// Repeat returns a word of n equal symbols.
func Repeat(symbol, n int) []int {
	return slices.Repeat([]int{symbol}, n)
}

// First returns the first words of so many symbols, in their order.
func First(count, inputs, symbols int) [][]int {
	l := [][]int{Repeat(0, symbols)}
	for len(l) < count {
		w, e := words.Next(l[len(l)-1], inputs)
		if e != api.OK || len(w) != symbols {
			panic("so many words there are not")
		}
		l = append(l, w)
	}
	return l
}

// Copy returns the same list in other memory.
func Copy(l [][]int) [][]int {
	other := slices.Clone(l)
	for n, w := range other {
		other[n] = slices.Clone(w)
	}
	return other
}

// Has reports whether a word is one of some words.
func Has(l [][]int, w []int) bool {
	return slices.ContainsFunc(l, func(v []int) bool { return slices.Equal(v, w) })
}

// Same reports whether two lists have the same words in the same order.
func Same(a, b [][]int) bool {
	return slices.EqualFunc(a, b, slices.Equal)
}

// All returns all words of at most so many symbols for which a function holds.
func All(inputs, most int, holds func(w []int) bool) [][]int {
	var l [][]int
	for w := range words.All(inputs, most) {
		if holds(w) {
			l = append(l, w)
		}
	}
	return l
}

// Scattered returns a list that follows no pattern; another seed makes another one.
func Scattered(inputs, count, most, seed int) [][]int {
	next := samples.Numbers(seed)
	var l [][]int
	for range count {
		w := make([]int, next(most+1))
		for n := range w {
			w[n] = next(inputs)
		}
		l = append(l, w)
	}
	slices.SortFunc(l, words.Compare)
	return slices.CompactFunc(l, slices.Equal)
}

// Sorted returns words in their order, each once.
func Sorted(l [][]int) [][]int {
	other := slices.Clone(l)
	slices.SortFunc(other, words.Compare)
	return slices.CompactFunc(other, slices.Equal)
}

// Prefixes returns by the definition the prefixes of words.
func Prefixes(l [][]int) [][]int {
	var found [][]int
	for _, w := range l {
		for n := range len(w) + 1 {
			found = append(found, w[:n])
		}
	}
	return Sorted(found)
}

// Reduced returns by the definition the words that are no proper prefixes of others.
func Reduced(l [][]int) [][]int {
	return slices.DeleteFunc(slices.Clone(l), func(w []int) bool {
		return slices.ContainsFunc(l, func(v []int) bool { return len(w) < len(v) && words.Prefix(w, v) })
	})
}

// Products returns by the definition the words of one list, followed by those of another one.
func Products(a, b [][]int) [][]int {
	var found [][]int
	for _, u := range a {
		for _, v := range b {
			found = append(found, slices.Concat(u, v))
		}
	}
	return Sorted(found)
}

// Brief returns the beginning of the text of a list, for what a failure tells.
func Brief(l [][]int) string {
	text := Text(l)
	return text[:min(len(text), 300)]
}

// Full reports whether a list has the capacity that it needs, and no more.
func Full(l [][]int) bool {
	return cap(l) == len(l) && !slices.ContainsFunc(l, func(w []int) bool { return cap(w) != len(w) })
}

// Every returns all valid lists of words of at most so many symbols.
func Every(inputs, most int) [][][]int {
	l := [][][]int{nil}
	for w := range words.All(inputs, most) {
		for _, before := range slices.Clone(l) {
			l = append(l, append(slices.Clone(before), w))
		}
	}
	return l
}

// Spare returns the list that is the inverse of a text, with more capacity than length.
func Spare(s string) [][]int {
	l := append(make([][]int, 0, 20), Of(s)...)
	for n, w := range l {
		l[n] = append(make([]int, 0, 20), w...)
	}
	return l
}

// IsSpare reports whether a list made by Spare is still the same, with nothing behind it.
func IsSpare(l [][]int, s string) bool {
	for _, w := range l {
		if !slices.Equal(w[:20][len(w):], Repeat(0, 20-len(w))) {
			return false
		}
	}
	return Text(l) == s && !slices.ContainsFunc(l[:20][len(l):], func(w []int) bool { return w != nil })
}

// Separate reports whether no two words of a list share memory. It writes into them.
func Separate(l [][]int) bool {
	for n, w := range l {
		for k := range w {
			w[k] = 50 + n
		}
	}
	for n, w := range l {
		if !slices.Equal(w, Repeat(50+n, len(w))) {
			return false
		}
	}
	return true
}

// Bad is a list that is refused.
type Bad struct {
	Name   string
	L      [][]int
	Inputs int
	Want   api.Errno
}

// Unorderly returns lists whose only errors are those of their order, and of their symbols together.
func Unorderly() []Bad {
	return []Bad{
		{"descending by symbols", Of("1, 0"), 2, api.ErrArg},
		{"descending by lengths", Of("0 0, 1"), 2, api.ErrArg},
		{"descending to the empty word", Of("0, -"), 2, api.ErrArg},
		{"descending at the end", Of("-, 0, 1, 0 0, 1 1, 1 0"), 2, api.ErrArg},
		{"descending at the beginning", Of("1, 0, 0 0, 0 1"), 2, api.ErrArg},
		{"as texts would ascend", Of("1 0, 1"), 2, api.ErrArg},
		{"as texts would ascend, two digits", Of("10, 9"), 11, api.ErrArg},
		{"a word twice", Of("0, 1, 1"), 2, api.ErrArg},
		{"a word twice, but not next to itself", Of("0, 1, 0"), 2, api.ErrArg},
		{"the empty word twice", [][]int{nil, {}}, 2, api.ErrArg},
		{"the order before the symbols together", append(First(257, 16, 256), Repeat(0, 256)), 16, api.ErrArg},
		{"a symbol too many together", slices.Concat(Of("0"), First(256, 16, 256)), 16, api.ErrLimit},
		{"a word too many of those that are the longest", First(257, 16, 256), 16, api.ErrLimit},
		{"far too many symbols together", First(4096, 16, 256), 16, api.ErrLimit},
	}
}

// Improper returns words that cannot be sorted either.
func Improper() []Bad {
	return []Bad{
		{"no inputs", nil, 0, api.ErrArg},
		{"no inputs, but a word", Of("-"), 0, api.ErrArg},
		{"negative inputs", nil, -1, api.ErrArg},
		{"least inputs", Of("0"), math.MinInt, api.ErrArg},
		{"too many inputs", nil, 17, api.ErrLimit},
		{"most inputs", Of("0"), math.MaxInt, api.ErrLimit},
		{"too many inputs before the words", Of("1, 0"), 17, api.ErrLimit},
		{"too many words", First(4097, 16, 4), 16, api.ErrLimit},
		{"too many words, all of them equal", make([][]int, 4097), 2, api.ErrLimit},
		{"far too many words", make([][]int, 100000), 2, api.ErrLimit},
		{"too many words before no inputs", make([][]int, 4097), 0, api.ErrLimit},
		{"too many words before a symbol", append(Of("2"), First(4096, 2, 12)...), 2, api.ErrLimit},
		{"symbol too great", Of("2"), 2, api.ErrArg},
		{"symbol too great in the last word", Of("-, 0, 1, 0 0, 0 3"), 3, api.ErrArg},
		{"symbol negative", [][]int{{0}, {0, -1}}, 2, api.ErrArg},
		{"extreme symbols", [][]int{{math.MinInt}, {math.MaxInt}}, 16, api.ErrArg},
		{"word too long", [][]int{Repeat(0, 257)}, 1, api.ErrLimit},
		{"word too long behind others", [][]int{{}, {1}, Repeat(0, 257)}, 2, api.ErrLimit},
		{"word too long before its symbols", [][]int{Repeat(2, 257)}, 2, api.ErrLimit},
		{"no inputs before a word too long", [][]int{Repeat(0, 257)}, 0, api.ErrArg},
		{"first error is of a symbol", [][]int{{2}, Repeat(0, 257)}, 2, api.ErrArg},
		{"first error is of a length", [][]int{Repeat(0, 257), {2}}, 2, api.ErrLimit},
		{"word too long before the order", [][]int{{1}, {0}, Repeat(0, 257)}, 2, api.ErrLimit},
		{"word too long before the symbols together", slices.Concat(First(257, 2, 256), [][]int{Repeat(0, 257)}), 2, api.ErrLimit},
		{"symbol before the symbols together", append(First(257, 2, 256), append(Repeat(1, 255), 2)), 2, api.ErrArg},
	}
}

// Refused returns lists that are not valid.
func Refused() []Bad { return slices.Concat(Unorderly(), Improper()) }
