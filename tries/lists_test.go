package tries_test

import (
	"math"
	"slices"
	"strings"
	"testing"

	"gauntlet/api"
	"gauntlet/tries"
	"gauntlet/words"
)

// list reads words in the way of the chapter's examples; of the empty text there are none.
func list(s string) [][]int {
	l := [][]int{}
	if s == "" {
		return l
	}
	for _, part := range strings.Split(s, ", ") {
		w, e := words.Parse(part, api.MaxInputs)
		if e != api.OK {
			panic(part)
		}
		l = append(l, w)
	}
	return l
}

// show is the inverse of list.
func show(l [][]int) string {
	parts := make([]string, len(l))
	for n, w := range l {
		parts[n] = words.Text(w)
	}
	return strings.Join(parts, ", ")
}

// repeat returns a word of n equal symbols.
func repeat(symbol, n int) []int {
	return slices.Repeat([]int{symbol}, n)
}

// first returns the first words of so many symbols, in their order.
func first(count, inputs, symbols int) [][]int {
	l := [][]int{repeat(0, symbols)}
	for len(l) < count {
		w, e := words.Next(l[len(l)-1], inputs)
		if e != api.OK || len(w) != symbols {
			panic("so many words there are not")
		}
		l = append(l, w)
	}
	return l
}

// copied returns the same list in other memory.
func copied(l [][]int) [][]int {
	other := slices.Clone(l)
	for n, w := range other {
		other[n] = slices.Clone(w)
	}
	return other
}

// contains reports whether a word is one of some words.
func contains(l [][]int, w []int) bool {
	return slices.ContainsFunc(l, func(v []int) bool { return slices.Equal(v, w) })
}

// same reports whether two lists have the same words in the same order.
func same(a, b [][]int) bool {
	return slices.EqualFunc(a, b, slices.Equal)
}

// all returns all words of at most so many symbols for which a function holds.
func all(inputs, most int, holds func(w []int) bool) [][]int {
	var l [][]int
	for w := range words.All(inputs, most) {
		if holds(w) {
			l = append(l, w)
		}
	}
	return l
}

// family has all valid lists of words of at most so many symbols.
type family struct {
	inputs, most int
	lists        [][][]int
}

// of returns a family.
func of(inputs, most int) family {
	l := [][][]int{nil}
	for w := range words.All(inputs, most) {
		for _, before := range slices.Clone(l) {
			l = append(l, append(slices.Clone(before), w))
		}
	}
	return family{inputs, most, l}
}

// families returns the families by which functions are held against their definitions.
func families() []family {
	return []family{of(1, 4), of(2, 2), of(3, 1)}
}

// scattered returns a list that follows no pattern; another seed makes another one.
func scattered(inputs, count, most, seed int) [][]int {
	next := func(below int) int {
		seed = (seed*1103515245 + 12345) % (1 << 31)
		return seed >> 8 % below
	}
	var l [][]int
	for range count {
		w := make([]int, next(most+1))
		for n := range w {
			w[n] = next(inputs)
		}
		l = append(l, w)
	}
	slices.SortFunc(l, words.Compare)
	return slices.CompactFunc(l, slices.Equal)
}

// larger is a list with its number of inputs.
type larger struct {
	inputs int
	l      [][]int
}

// largerLists returns lists with words that are too long for families, and more of them.
func largerLists() []larger {
	l := []larger{
		{16, list("15, 14 15, 15 14, 15 15, 0 0 15, 15 0 0")},
		{11, list("-, 10, 1 0, 10 10, 1 0 10")},
		{2, [][]int{repeat(1, 20), repeat(0, 30)}},
		{1, [][]int{repeat(0, 3), repeat(0, 200)}},
	}
	for seed := range 40 {
		inputs := 1 + seed%16
		l = append(l, larger{inputs, scattered(inputs, 5+2*seed, 1+seed%7, seed)})
	}
	return l
}

// sorted returns words in their order, each once.
func sorted(l [][]int) [][]int {
	other := slices.Clone(l)
	slices.SortFunc(other, words.Compare)
	return slices.CompactFunc(other, slices.Equal)
}

// allPrefixes returns by the definition the prefixes of words.
func allPrefixes(l [][]int) [][]int {
	var found [][]int
	for _, w := range l {
		for n := range len(w) + 1 {
			found = append(found, w[:n])
		}
	}
	return sorted(found)
}

// reduced returns by the definition the words that are no proper prefixes of others.
func reduced(l [][]int) [][]int {
	return slices.DeleteFunc(slices.Clone(l), func(w []int) bool {
		return slices.ContainsFunc(l, func(v []int) bool { return len(w) < len(v) && words.Prefix(w, v) })
	})
}

// products returns by the definition the words of one list, followed by those of another one.
func products(a, b [][]int) [][]int {
	var found [][]int
	for _, u := range a {
		for _, v := range b {
			found = append(found, slices.Concat(u, v))
		}
	}
	return sorted(found)
}

// brief returns the beginning of what a failure tells.
func brief(s string) string {
	return s[:min(len(s), 300)]
}

// wantList holds what was returned against a list.
func wantList(t *testing.T, name string, got [][]int, e api.Errno, want [][]int) {
	t.Helper()
	if e != api.OK || !same(got, want) {
		t.Errorf("%s: error %d, %d words %s; want %d: %s", name, e, len(got), brief(show(got)), len(want), brief(show(want)))
	}
	if cap(got) != len(got) || slices.ContainsFunc(got, func(w []int) bool { return cap(w) != len(w) }) {
		t.Errorf("%s: more capacity than length", name)
	}
}

// wantRefused holds what was returned against an error.
func wantRefused(t *testing.T, name string, got [][]int, e, want api.Errno) {
	t.Helper()
	if e != want || len(got) != 0 {
		t.Errorf("%s: error %d, %d words %s; want error %d", name, e, len(got), brief(show(got)), want)
	}
}

// bad is a list that is refused.
type bad struct {
	name   string
	l      [][]int
	inputs int
	want   api.Errno
}

// unorderly returns lists whose only errors are those of their order, and of their symbols together.
func unorderly() []bad {
	return []bad{
		{"descending by symbols", list("1, 0"), 2, api.ErrArg},
		{"descending by lengths", list("0 0, 1"), 2, api.ErrArg},
		{"descending to the empty word", list("0, -"), 2, api.ErrArg},
		{"descending at the end", list("-, 0, 1, 0 0, 1 1, 1 0"), 2, api.ErrArg},
		{"descending at the beginning", list("1, 0, 0 0, 0 1"), 2, api.ErrArg},
		{"as texts would ascend", list("1 0, 1"), 2, api.ErrArg},
		{"as texts would ascend, two digits", list("10, 9"), 11, api.ErrArg},
		{"a word twice", list("0, 1, 1"), 2, api.ErrArg},
		{"a word twice, but not next to itself", list("0, 1, 0"), 2, api.ErrArg},
		{"the empty word twice", [][]int{nil, {}}, 2, api.ErrArg},
		{"the order before the symbols together", append(first(257, 16, 256), repeat(0, 256)), 16, api.ErrArg},
		{"a symbol too many together", slices.Concat(list("0"), first(256, 16, 256)), 16, api.ErrLimit},
		{"a word too many of those that are the longest", first(257, 16, 256), 16, api.ErrLimit},
		{"far too many symbols together", first(4096, 16, 256), 16, api.ErrLimit},
	}
}

// improper returns words that cannot be sorted either.
func improper() []bad {
	return []bad{
		{"no inputs", nil, 0, api.ErrArg},
		{"no inputs, but a word", list("-"), 0, api.ErrArg},
		{"negative inputs", nil, -1, api.ErrArg},
		{"least inputs", list("0"), math.MinInt, api.ErrArg},
		{"too many inputs", nil, 17, api.ErrLimit},
		{"most inputs", list("0"), math.MaxInt, api.ErrLimit},
		{"too many inputs before the words", list("1, 0"), 17, api.ErrLimit},
		{"too many words", first(4097, 16, 4), 16, api.ErrLimit},
		{"too many words, all of them equal", make([][]int, 4097), 2, api.ErrLimit},
		{"far too many words", make([][]int, 100000), 2, api.ErrLimit},
		{"too many words before no inputs", make([][]int, 4097), 0, api.ErrLimit},
		{"too many words before a symbol", append(list("2"), first(4096, 2, 12)...), 2, api.ErrLimit},
		{"symbol too great", list("2"), 2, api.ErrArg},
		{"symbol too great in the last word", list("-, 0, 1, 0 0, 0 3"), 3, api.ErrArg},
		{"symbol negative", [][]int{{0}, {0, -1}}, 2, api.ErrArg},
		{"extreme symbols", [][]int{{math.MinInt}, {math.MaxInt}}, 16, api.ErrArg},
		{"word too long", [][]int{repeat(0, 257)}, 1, api.ErrLimit},
		{"word too long behind others", [][]int{{}, {1}, repeat(0, 257)}, 2, api.ErrLimit},
		{"word too long before its symbols", [][]int{repeat(2, 257)}, 2, api.ErrLimit},
		{"no inputs before a word too long", [][]int{repeat(0, 257)}, 0, api.ErrArg},
		{"first error is of a symbol", [][]int{{2}, repeat(0, 257)}, 2, api.ErrArg},
		{"first error is of a length", [][]int{repeat(0, 257), {2}}, 2, api.ErrLimit},
		{"word too long before the order", [][]int{{1}, {0}, repeat(0, 257)}, 2, api.ErrLimit},
		{"word too long before the symbols together", slices.Concat(first(257, 2, 256), [][]int{repeat(0, 257)}), 2, api.ErrLimit},
		{"symbol before the symbols together", append(first(257, 2, 256), append(repeat(1, 255), 2)), 2, api.ErrArg},
	}
}

// refused returns lists that are not valid.
func refused() []bad { return slices.Concat(unorderly(), improper()) }

// P12.1
func TestCheck(t *testing.T) {
	for _, x := range []struct {
		name   string
		l      [][]int
		inputs int
	}{
		{"no words", nil, 1},
		{"no words in an empty slice", [][]int{}, 16},
		{"the empty word", list("-"), 1},
		{"the empty word as nil", [][]int{nil}, 16},
		{"ordinary", list("-, 0, 2, 0 1, 0 2, 1 0, 2 2, 0 0 0"), 3},
		{"longer words come later", list("1, 0 0"), 2},
		{"two digits", list("9, 10"), 11},
		{"greatest symbols", list("15, 15 15"), 16},
		{"longest word", [][]int{repeat(0, 256)}, 1},
		{"all words of one input", all(1, 256, func([]int) bool { return true }), 1},
		{"as many words as there may be", first(4096, 2, 12), 2},
		{"as many words as there may be, of 16 inputs", first(4096, 16, 3), 16},
		{"as many symbols as there may be", first(256, 16, 256), 16},
		{"as many symbols as there may be, and the empty word", slices.Concat(list("-"), first(256, 16, 256)), 16},
		{"as many words and symbols as there may be", first(4096, 2, 16), 2},
	} {
		if e := tries.Check(x.l, x.inputs); e != api.OK {
			t.Errorf("%s: error %d", x.name, e)
		}
	}
	for _, x := range refused() {
		if e := tries.Check(x.l, x.inputs); e != x.want {
			t.Errorf("%s: error %d; want error %d", x.name, e, x.want)
		}
	}
}

// P12.1
func TestCheckByTheDefinition(t *testing.T) {
	pool := [][]int{{}, {0}, {1}, {2}, {-1}, {0, 0}, {1, 0}, {0, 2}, repeat(0, 256), repeat(0, 257)}
	for choice := range words.All(len(pool), 4) {
		l := make([][]int, len(choice))
		for n, c := range choice {
			l[n] = pool[c]
		}
		want := api.OK
		for n := len(l) - 1; n > 0; n-- {
			if words.Compare(l[n-1], l[n]) != -1 {
				want = api.ErrArg
			}
		}
		for n := len(l) - 1; n >= 0; n-- {
			if e := words.Check(l[n], 2); e != api.OK {
				want = e
			}
		}
		if e := tries.Check(l, 2); e != want {
			t.Errorf("%s: error %d; want error %d", brief(show(l)), e, want)
		}
	}
}

// P12.2
func TestSort(t *testing.T) {
	most := first(4096, 16, 3)
	backwards := slices.Clone(most)
	slices.Reverse(backwards)
	longest := first(256, 16, 256)
	for _, x := range []struct {
		name   string
		l      [][]int
		inputs int
		want   [][]int
	}{
		{"example", list("1 0, 1, 0, 1"), 2, list("0, 1, 1 0")},
		{"no words", nil, 2, nil},
		{"no words in an empty slice", [][]int{}, 2, nil},
		{"the empty word", list("-"), 1, list("-")},
		{"the empty word as nil, and again", [][]int{nil, {}, nil}, 1, list("-")},
		{"sorted already", list("-, 0, 1, 0 0"), 2, list("-, 0, 1, 0 0")},
		{"backwards", list("0 0, 1, 0, -"), 2, list("-, 0, 1, 0 0")},
		{"lengths before symbols", list("0 0 0, 0 1, 0, 1"), 2, list("0, 1, 0 1, 0 0 0")},
		{"two digits", list("15, 10, 9, 1, 1 15, 1 9, 10 1"), 16, list("1, 9, 10, 15, 1 9, 1 15, 10 1")},
		{"again and again", list("1, 0, 1, 0, 1, 1, 0"), 2, list("0, 1")},
		{"as many words as there may be", backwards, 16, most},
		{"as many words as there may be, all of them equal", slices.Repeat(list("0 1"), 4096), 2, list("0 1")},
		{"as many symbols as there may be", slices.Concat(longest[100:], longest[:100]), 16, longest},
		{"far more symbols, but few of different words", slices.Repeat([][]int{repeat(1, 256)}, 4096), 2, [][]int{repeat(1, 256)}},
		{"each of the longest words twice", slices.Concat(longest, longest), 16, longest},
	} {
		got, e := tries.Sort(x.l, x.inputs)
		wantList(t, x.name, got, e, x.want)
	}
	for _, x := range improper() {
		got, e := tries.Sort(x.l, x.inputs)
		wantRefused(t, x.name, got, e, x.want)
	}
	for _, x := range unorderly() {
		got, e := tries.Sort(x.l, x.inputs)
		if want := sorted(x.l); tries.Check(want, x.inputs) == api.OK {
			wantList(t, x.name, got, e, want)
		} else {
			wantRefused(t, x.name, got, e, api.ErrLimit)
		}
	}
}

// P12.2
func TestSortByTheDefinition(t *testing.T) {
	pool := list("-, 0, 1, 0 0, 0 1, 1 0, 1 1 1")
	for choice := range words.All(len(pool), 5) {
		l := make([][]int, len(choice))
		for n, c := range choice {
			l[n] = pool[c]
		}
		got, e := tries.Sort(l, 2)
		want := all(2, 3, func(w []int) bool { return contains(l, w) })
		wantList(t, "Sort "+show(l), got, e, want)
	}
	for _, x := range largerLists() {
		l := slices.Concat(x.l, x.l)
		for n := range l {
			k := (n*n + 7) % len(l)
			l[n], l[k] = l[k], l[n]
		}
		got, e := tries.Sort(l, x.inputs)
		wantList(t, "Sort "+show(l), got, e, x.l)
	}
}

// P12.3
func TestReduce(t *testing.T) {
	for _, x := range []struct {
		l      string
		inputs int
		want   string
	}{
		{"-, 0, 1, 1 0", 2, "0, 1 0"},
		{"", 2, ""},
		{"-", 1, "-"},
		{"-, 0", 1, "0"},
		{"0, 1", 2, "0, 1"},
		{"0, 0 1, 1 0", 2, "0 1, 1 0"},
		{"1, 0 1", 2, "1, 0 1"},
		{"0, 0 0, 0 0 0, 0 0 0 0", 1, "0 0 0 0"},
		{"0, 0 0 0", 2, "0 0 0"},
		{"1, 15, 1 5, 15 1", 16, "1 5, 15 1"},
		{"1, 10", 11, "1, 10"},
		{"-, 0, 2, 0 1, 0 1 2", 3, "2, 0 1 2"},
	} {
		got, e := tries.Reduce(list(x.l), x.inputs)
		wantList(t, "Reduce "+x.l, got, e, list(x.want))
	}
	got, e := tries.Reduce(all(1, 256, func([]int) bool { return true }), 1)
	wantList(t, "all words of one input", got, e, [][]int{repeat(0, 256)})
	for _, l := range [][][]int{first(4096, 2, 16), first(256, 16, 256)} {
		got, e = tries.Reduce(l, 16)
		wantList(t, "as many symbols as there may be", got, e, l)
	}
	for _, x := range refused() {
		got, e := tries.Reduce(x.l, x.inputs)
		wantRefused(t, x.name, got, e, x.want)
	}
}

// P12.3
func TestSteps(t *testing.T) {
	for _, x := range []struct {
		l      [][]int
		inputs int
		want   int
	}{
		{nil, 1, 0},
		{list("-"), 16, 0},
		{list("0"), 1, 1},
		{list("-, 0, 2, 0 1, 0 1 2"), 3, 7},
		{list("0, 1, 0 0, 0 1, 1 0, 1 1"), 2, 10},
		{[][]int{repeat(0, 256)}, 1, 256},
		{first(4096, 2, 12), 2, 49152},
		{first(256, 16, 256), 16, 65536},
		{first(4096, 2, 16), 2, 65536},
	} {
		if got, e := tries.Steps(x.l, x.inputs); got != x.want || e != api.OK {
			t.Errorf("Steps %s: %d, error %d; want %d", brief(show(x.l)), got, e, x.want)
		}
	}
	for _, x := range refused() {
		if got, e := tries.Steps(x.l, x.inputs); got != 0 || e != x.want {
			t.Errorf("%s: %d, error %d; want error %d", x.name, got, e, x.want)
		}
	}
}

// P12.4
func TestPrefixes(t *testing.T) {
	for _, x := range []struct {
		l      string
		inputs int
		want   string
	}{
		{"1 0", 2, "-, 1, 1 0"},
		{"", 2, ""},
		{"-", 2, "-"},
		{"0", 1, "-, 0"},
		{"0, 1, 0 1 2", 3, "-, 0, 1, 0 1, 0 1 2"},
		{"0 1, 1 0", 2, "-, 0, 1, 0 1, 1 0"},
		{"2, 1 2, 0 1 2", 3, "-, 0, 1, 2, 0 1, 1 2, 0 1 2"},
		{"10 1, 1 10 0", 11, "-, 1, 10, 1 10, 10 1, 1 10 0"},
	} {
		got, e := tries.Prefixes(list(x.l), x.inputs)
		wantList(t, "Prefixes "+x.l, got, e, list(x.want))
	}
	for _, x := range refused() {
		got, e := tries.Prefixes(x.l, x.inputs)
		wantRefused(t, x.name, got, e, x.want)
	}
}

// P12.4
func TestPrefixesUpToTheLimits(t *testing.T) {
	// 240 words of two symbols, 15 of one, and the empty one: 4096 prefixes together.
	words3840 := first(3840, 16, 3)
	// 32896 symbols of one word's prefixes, and 32640 of the other one's: 65536 together.
	two := [][]int{repeat(1, 255), repeat(0, 256)}
	for _, x := range []struct {
		name   string
		l      [][]int
		inputs int
	}{
		{"one word", [][]int{repeat(0, 256)}, 1},
		{"as many words as there may be", words3840, 16},
		{"as many symbols as there may be", two, 2},
	} {
		got, e := tries.Prefixes(x.l, x.inputs)
		wantList(t, x.name, got, e, allPrefixes(x.l))
	}
	for _, x := range []struct {
		name   string
		l      [][]int
		inputs int
	}{
		{"a word too many", append(words3840, []int{15, 15, 15}), 16},
		{"too many words, but not too many symbols", first(4096, 16, 3), 16},
		{"a symbol too many", slices.Concat(list("2"), two), 3},
		{"too many symbols, but not too many words", [][]int{repeat(0, 256), repeat(1, 256)}, 2},
		{"too many of both", first(4096, 2, 16), 2},
		{"far too many", wide(), 16},
	} {
		got, e := tries.Prefixes(x.l, x.inputs)
		wantRefused(t, x.name, got, e, api.ErrLimit)
	}
}

// wide returns a list with as many symbols as there may be, and almost as many prefixes: its words differ in their first two symbols.
func wide() [][]int {
	l := first(256, 16, 2)
	for n, w := range l {
		l[n] = append(w, repeat(n%7, 254)...)
	}
	return l
}

// P12.4
func TestUnionAndMinus(t *testing.T) {
	for _, x := range []struct {
		a, b         string
		union, minus string
	}{
		{"", "", "", ""},
		{"-", "", "-", "-"},
		{"", "-", "-", ""},
		{"-", "-", "-", ""},
		{"0, 1", "0, 1", "0, 1", ""},
		{"0, 0 0", "1, 1 0", "0, 1, 0 0, 1 0", "0, 0 0"},
		{"-, 0, 2, 0 1, 0 1 2", "0, 1, 0 1 2", "-, 0, 1, 2, 0 1, 0 1 2", "-, 2, 0 1"},
		{"0, 1, 0 1 2", "-, 0, 2, 0 1, 0 1 2", "-, 0, 1, 2, 0 1, 0 1 2", "1"},
		{"10, 1 0, 1 15", "1, 10, 15, 1 1", "1, 10, 15, 1 0, 1 1, 1 15", "1 0, 1 15"},
	} {
		got, e := tries.Union(list(x.a), list(x.b), 16)
		wantList(t, "Union "+x.a+" and "+x.b, got, e, list(x.union))
		got, e = tries.Minus(list(x.a), list(x.b), 16)
		wantList(t, x.a+" minus "+x.b, got, e, list(x.minus))
	}
}

// P12.4
func TestUnionAndMinusUpToTheLimits(t *testing.T) {
	most, longest := first(4096, 16, 3), first(256, 16, 256)
	for _, x := range []struct {
		name     string
		a, b     [][]int
		valid    bool
		together [][]int
	}{
		{"as many words as there may be, twice", most, most, true, most},
		{"as many words as there may be", most[:1000], most[1000:], true, most},
		{"as many words as there may be, some of them twice", most[500:], most[:3000], true, most},
		{"a word too many", most, list("-"), false, nil},
		{"a word too many in front", list("0"), most, false, nil},
		{"twice as many words as there may be", first(4096, 2, 12), most, false, nil},
		{"as many symbols as there may be, twice", longest, longest, true, longest},
		{"as many symbols as there may be", longest[7:], longest[:7], true, longest},
		{"as many symbols as there may be, and the empty word", longest, list("-"), true, slices.Concat(list("-"), longest)},
		{"a symbol too many", longest, list("15"), false, nil},
		{"a symbol too many in front", list("0"), longest, false, nil},
	} {
		got, e := tries.Union(x.a, x.b, 16)
		if x.valid {
			wantList(t, x.name, got, e, x.together)
		} else {
			wantRefused(t, x.name, got, e, api.ErrLimit)
		}
		got, e = tries.Minus(x.a, x.b, 16)
		wantList(t, x.name, got, e, slices.DeleteFunc(slices.Clone(x.a), func(w []int) bool { return contains(x.b, w) }))
	}
}

// P12.3, P12.4
func TestListsByTheDefinition(t *testing.T) {
	for _, f := range families() {
		for _, l := range f.lists {
			holdOne(t, f.inputs, l, all(f.inputs, f.most, func(w []int) bool {
				return slices.ContainsFunc(l, func(v []int) bool { return words.Prefix(w, v) })
			}))
		}
	}
	for _, x := range largerLists() {
		holdOne(t, x.inputs, x.l, allPrefixes(x.l))
	}
}

// holdOne holds what is made of one list against the definitions.
func holdOne(t *testing.T, inputs int, l, prefixes [][]int) {
	t.Helper()
	got, e := tries.Reduce(l, inputs)
	wantList(t, "Reduce "+show(l), got, e, reduced(l))
	got, e = tries.Prefixes(l, inputs)
	wantList(t, "Prefixes "+show(l), got, e, prefixes)
	sum := 0
	for _, w := range l {
		sum += len(w)
	}
	if steps, e := tries.Steps(l, inputs); steps != sum || e != api.OK {
		t.Errorf("Steps %s: %d, error %d", show(l), steps, e)
	}
}

// P12.4, P12.6
func TestPairsByTheDefinition(t *testing.T) {
	for _, f := range families() {
		for n, a := range f.lists {
			for k, b := range f.lists {
				// With more than 32 lists, some of the pairs are enough.
				if len(f.lists) > 32 && (n*37+k)%5 != 0 {
					continue
				}
				holdPair(t, f, a, b)
			}
		}
	}
	for _, x := range largerLists() {
		for _, y := range largerLists() {
			inputs := max(x.inputs, y.inputs)
			got, e := tries.Union(x.l, y.l, inputs)
			wantList(t, "Union", got, e, sorted(slices.Concat(x.l, y.l)))
			got, e = tries.Minus(x.l, y.l, inputs)
			wantList(t, "Minus", got, e, slices.DeleteFunc(slices.Clone(x.l), func(w []int) bool { return contains(y.l, w) }))
			if len(x.l)*len(y.l) > 1500 {
				continue
			}
			got, e = tries.Concat(x.l, y.l, inputs)
			if want := products(x.l, y.l); tries.Check(want, inputs) == api.OK {
				wantList(t, "Concat", got, e, want)
			} else {
				wantRefused(t, "Concat", got, e, api.ErrLimit)
			}
		}
	}
}

// holdPair holds what is made of two lists of a family against the definitions.
func holdPair(t *testing.T, f family, a, b [][]int) {
	t.Helper()
	names := show(a) + " and " + show(b)
	got, e := tries.Union(a, b, f.inputs)
	wantList(t, "Union "+names, got, e, all(f.inputs, f.most, func(w []int) bool { return contains(a, w) || contains(b, w) }))
	got, e = tries.Minus(a, b, f.inputs)
	wantList(t, "Minus "+names, got, e, all(f.inputs, f.most, func(w []int) bool { return contains(a, w) && !contains(b, w) }))
	got, e = tries.Concat(a, b, f.inputs)
	wantList(t, "Concat "+names, got, e, all(f.inputs, 2*f.most, func(w []int) bool {
		for n := range len(w) + 1 {
			if contains(a, w[:n]) && contains(b, w[n:]) {
				return true
			}
		}
		return false
	}))
}

// P12.4, P12.6
func TestPairsAreRefused(t *testing.T) {
	for _, call := range []struct {
		name string
		make func(a, b [][]int, inputs int) ([][]int, api.Errno)
	}{{"Union", tries.Union}, {"Minus", tries.Minus}, {"Concat", tries.Concat}} {
		for _, x := range refused() {
			for _, l := range [][][]int{nil, list("-"), list("0"), list("1, 0"), {repeat(0, 257)}, {{math.MaxInt}}} {
				got, e := call.make(x.l, l, x.inputs)
				wantRefused(t, call.name+", the first list: "+x.name, got, e, x.want)
			}
			for _, l := range [][][]int{nil, list("-"), list("0")} {
				if tries.Check(l, x.inputs) == api.OK {
					got, e := call.make(l, x.l, x.inputs)
					wantRefused(t, call.name+", the second list: "+x.name, got, e, x.want)
				}
			}
		}
		got, e := call.make(first(4096, 16, 3), list("1, 0"), 16)
		wantRefused(t, call.name+", the second list before the limits", got, e, api.ErrArg)
		got, e = call.make([][]int{repeat(0, 256)}, [][]int{repeat(1, 256), repeat(0, 256)}, 2)
		wantRefused(t, call.name+", the second list before words that are too long", got, e, api.ErrArg)
	}
}

// P12.5
func TestHas(t *testing.T) {
	for _, x := range []struct {
		l      string
		w      []int
		inputs int
		want   bool
	}{
		{"", nil, 1, false},
		{"", []int{0}, 1, false},
		{"-", nil, 1, true},
		{"-", []int{}, 1, true},
		{"-", []int{0}, 1, false},
		{"0", nil, 1, false},
		{"-, 0, 2, 0 1, 0 1 2", nil, 3, true},
		{"-, 0, 2, 0 1, 0 1 2", []int{0}, 3, true},
		{"-, 0, 2, 0 1, 0 1 2", []int{1}, 3, false},
		{"-, 0, 2, 0 1, 0 1 2", []int{2}, 3, true},
		{"-, 0, 2, 0 1, 0 1 2", []int{0, 1}, 3, true},
		{"-, 0, 2, 0 1, 0 1 2", []int{0, 2}, 3, false},
		{"-, 0, 2, 0 1, 0 1 2", []int{0, 1, 2}, 3, true},
		{"-, 0, 2, 0 1, 0 1 2", []int{0, 1, 2, 0}, 3, false},
		{"0 1 0", []int{0, 1}, 2, false},
		{"10", []int{1, 0}, 11, false},
		{"1 0", []int{10}, 11, false},
	} {
		if got, e := tries.Has(list(x.l), x.w, x.inputs); got != x.want || e != api.OK {
			t.Errorf("Has %s: %v: %v, error %d", x.l, x.w, got, e)
		}
	}
	for _, f := range families() {
		for _, l := range f.lists {
			for w := range words.All(f.inputs, f.most+1) {
				if got, e := tries.Has(l, w, f.inputs); got != contains(l, w) || e != api.OK {
					t.Errorf("Has %s: %v: %v, error %d", show(l), w, got, e)
				}
			}
		}
	}
	most := first(4096, 16, 3)
	for _, w := range most {
		if got, e := tries.Has(most, w, 16); !got || e != api.OK {
			t.Errorf("%v, error %d with %v", got, e, w)
		}
	}
}

// P12.5
func TestHasRefuses(t *testing.T) {
	for _, x := range refused() {
		for _, w := range [][]int{nil, {0}, {99}, repeat(0, 257)} {
			if got, e := tries.Has(x.l, w, x.inputs); got || e != x.want {
				t.Errorf("%s: %v, error %d; want error %d", x.name, got, e, x.want)
			}
		}
	}
	for _, x := range []struct {
		name string
		w    []int
		want api.Errno
	}{
		{"symbol too great", []int{2}, api.ErrArg},
		{"symbol negative", []int{0, -1}, api.ErrArg},
		{"extreme symbols", []int{math.MinInt, math.MaxInt}, api.ErrArg},
		{"too long", repeat(0, 257), api.ErrLimit},
		{"too long before symbols", repeat(2, 257), api.ErrLimit},
	} {
		for _, l := range []string{"", "-", "0, 1, 0 0"} {
			if got, e := tries.Has(list(l), x.w, 2); got || e != x.want {
				t.Errorf("%s: %v, error %d; want error %d", x.name, got, e, x.want)
			}
		}
	}
}

// P12.6
func TestConcat(t *testing.T) {
	for _, x := range []struct{ a, b, want string }{
		{"-, 0", "0, 1", "0, 1, 0 0, 0 1"},
		{"", "", ""},
		{"", "-, 0, 1", ""},
		{"-, 0, 1", "", ""},
		{"-", "-", "-"},
		{"-", "0, 1 1", "0, 1 1"},
		{"0, 1 1", "-", "0, 1 1"},
		{"0", "1", "0 1"},
		{"-, 0", "-, 0", "-, 0, 0 0"},
		{"0, 0 1", "0, 1 0", "0 0, 0 1 0, 0 1 1 0"},
		{"1, 0 0", "1, 0 0", "1 1, 0 0 1, 1 0 0, 0 0 0 0"},
		{"0, 1, 0 1 2", "-, 0, 2, 0 1, 0 1 2", "0, 1, 0 0, 0 2, 1 0, 1 2, 0 0 1, 0 1 2, 1 0 1, 0 0 1 2, 0 1 2 0, 0 1 2 2, 1 0 1 2, 0 1 2 0 1, 0 1 2 0 1 2"},
		{"1, 10", "0, 10", "1 0, 1 10, 10 0, 10 10"},
	} {
		got, e := tries.Concat(list(x.a), list(x.b), 16)
		wantList(t, "Concat "+x.a+" and "+x.b, got, e, list(x.want))
	}
}

// zeros returns all words of at most so many symbols, all of them 0.
func zeros(most int) [][]int {
	return slices.Collect(words.All(1, most))
}

// P12.6
func TestConcatUpToTheLimits(t *testing.T) {
	symbols, ends := first(16, 16, 1), first(16, 16, 255)
	for _, x := range []struct {
		name       string
		a, b, want [][]int
	}{
		{"as long as there may be", [][]int{repeat(0, 128)}, [][]int{repeat(1, 128)}, [][]int{append(repeat(0, 128), repeat(1, 128)...)}},
		{"as long as there may be, the first one empty", list("-"), [][]int{repeat(1, 256)}, [][]int{repeat(1, 256)}},
		{"as long as there may be, the second one empty", [][]int{repeat(1, 256)}, list("-"), [][]int{repeat(1, 256)}},
		{"nothing, and then the longest", nil, [][]int{repeat(1, 256)}, nil},
		{"the longest, and then nothing", [][]int{repeat(1, 256)}, nil, nil},
		{"as many words as there may be", symbols, first(256, 16, 2), first(4096, 16, 3)},
		{"as many words as there may be, the other way", first(256, 16, 2), symbols, first(4096, 16, 3)},
		{"as many words as there may be, and the empty one", first(4096, 16, 3), list("-"), first(4096, 16, 3)},
		{"far more pairs, but few words", zeros(128), zeros(128), zeros(256)},
		{"as many symbols as there may be", symbols, ends, products(symbols, ends)},
	} {
		got, e := tries.Concat(x.a, x.b, 16)
		wantList(t, x.name, got, e, x.want)
	}
	for _, x := range []struct {
		name string
		a, b [][]int
	}{
		{"a symbol too long", [][]int{repeat(0, 129)}, [][]int{repeat(0, 128)}},
		{"a symbol too long in front", list("0"), [][]int{repeat(1, 256)}},
		{"a symbol too long behind", [][]int{repeat(1, 256)}, list("0")},
		{"twice as long", [][]int{repeat(0, 256)}, [][]int{repeat(1, 256)}},
		{"only one of them too long", list("-, 0"), slices.Concat(list("1"), [][]int{repeat(1, 256)})},
		{"only the last one too long", zeros(128), zeros(129)},
		// One word is made twice: 2 * 2049 - 1 words.
		{"a word too many", list("-, 0"), slices.Concat(list("-, 0"), products(list("1"), first(2047, 16, 3)))},
		{"too many words", first(4096, 16, 3), list("0, 1")},
		{"far too many words", first(4096, 16, 3), first(4096, 16, 3)},
		{"far too many words of different lengths", zeros(128), first(4096, 16, 3)},
		// The 129 words have 32704 symbols, and each word is made with 0 in front, too: 2 * 32704 + 129 symbols.
		{"a symbol too many together", list("-, 0"), slices.Concat(first(1, 2, 64), products(list("1"), first(128, 2, 254)))},
		{"too many symbols together", slices.Concat(list("-"), symbols), ends},
	} {
		got, e := tries.Concat(x.a, x.b, 16)
		wantRefused(t, x.name, got, e, api.ErrLimit)
	}
}

// P12.7
func TestUptoAndExact(t *testing.T) {
	for _, x := range []struct {
		inputs, k   int
		upto, exact string
	}{
		{2, 0, "-", "-"},
		{16, 0, "-", "-"},
		{2, 1, "-, 0, 1", "0, 1"},
		{2, 2, "-, 0, 1, 0 0, 0 1, 1 0, 1 1", "0 0, 0 1, 1 0, 1 1"},
		{1, 3, "-, 0, 0 0, 0 0 0", "0 0 0"},
		{3, 2, "-, 0, 1, 2, 0 0, 0 1, 0 2, 1 0, 1 1, 1 2, 2 0, 2 1, 2 2", "0 0, 0 1, 0 2, 1 0, 1 1, 1 2, 2 0, 2 1, 2 2"},
		{11, 1, "-, 0, 1, 2, 3, 4, 5, 6, 7, 8, 9, 10", "0, 1, 2, 3, 4, 5, 6, 7, 8, 9, 10"},
	} {
		name := words.Text([]int{x.inputs, x.k})
		got, e := tries.Upto(x.inputs, x.k)
		wantList(t, "Upto "+name, got, e, list(x.upto))
		got, e = tries.Exact(x.inputs, x.k)
		wantList(t, "Exact "+name, got, e, list(x.exact))
	}
}

// The greatest lengths are those with at most 4096 words: none of these lists has too many symbols.
// P12.7
func TestUptoAndExactUpToTheLimits(t *testing.T) {
	upto := [...]int{1: 256, 2: 11, 3: 7, 4: 5, 5: 5, 6: 4, 7: 4, 8: 3, 9: 3, 10: 3, 11: 3, 12: 3, 13: 3, 14: 3, 15: 3, 16: 2}
	exact := [...]int{1: 256, 2: 12, 3: 7, 4: 6, 5: 5, 6: 4, 7: 4, 8: 4, 9: 3, 10: 3, 11: 3, 12: 3, 13: 3, 14: 3, 15: 3, 16: 3}
	for inputs := 1; inputs <= api.MaxInputs; inputs++ {
		for k := range upto[inputs] + 1 {
			got, e := tries.Upto(inputs, k)
			wantList(t, "Upto "+words.Text([]int{inputs, k}), got, e, slices.Collect(words.All(inputs, k)))
		}
		for k := range exact[inputs] + 1 {
			got, e := tries.Exact(inputs, k)
			want := [][]int{}
			for w := repeat(0, k); len(w) == k; w, _ = words.Next(w, inputs) {
				want = append(want, w)
				if len(w) == 256 {
					break
				}
			}
			wantList(t, "Exact "+words.Text([]int{inputs, k}), got, e, want)
		}
		for _, more := range []int{1, 2, 3, 10, 100, 300, 1 << 31, 1<<62 + 1, math.MaxInt - 256} {
			got, e := tries.Upto(inputs, upto[inputs]+more)
			wantRefused(t, "Upto "+words.Text([]int{inputs, upto[inputs] + more}), got, e, api.ErrLimit)
			got, e = tries.Exact(inputs, exact[inputs]+more)
			wantRefused(t, "Exact "+words.Text([]int{inputs, exact[inputs] + more}), got, e, api.ErrLimit)
		}
	}
}

// P12.7
func TestUptoAndExactRefuse(t *testing.T) {
	for _, x := range []struct {
		inputs, k int
		want      api.Errno
	}{
		{0, 0, api.ErrArg},
		{0, 1, api.ErrArg},
		{-1, 1, api.ErrArg},
		{math.MinInt, 0, api.ErrArg},
		{1, -1, api.ErrArg},
		{2, -1, api.ErrArg},
		{16, -1, api.ErrArg},
		{2, math.MinInt, api.ErrArg},
		{0, -1, api.ErrArg},
		{0, 1000, api.ErrArg},
		{math.MinInt, math.MaxInt, api.ErrArg},
		{17, 0, api.ErrLimit},
		{17, -1, api.ErrLimit},
		{math.MaxInt, math.MinInt, api.ErrLimit},
		{math.MaxInt, 1, api.ErrLimit},
		{1, 257, api.ErrLimit},
		{2, 13, api.ErrLimit},
		{2, 256, api.ErrLimit},
		{2, 257, api.ErrLimit},
		{2, math.MaxInt, api.ErrLimit},
		{16, math.MaxInt, api.ErrLimit},
	} {
		name := words.Text([]int{x.inputs, x.k})
		got, e := tries.Upto(x.inputs, x.k)
		wantRefused(t, "Upto "+name, got, e, x.want)
		got, e = tries.Exact(x.inputs, x.k)
		wantRefused(t, "Exact "+name, got, e, x.want)
	}
}
