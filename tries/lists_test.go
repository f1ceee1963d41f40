package tries_test

import (
	"math"
	"slices"
	"testing"

	"gauntlet/api"
	"gauntlet/samples/lists"
	"gauntlet/tries"
	"gauntlet/words"
)

// family has all valid lists of words of at most so many symbols.
type family struct {
	inputs, most int
	lists        [][][]int
}

// of returns a family.
func of(inputs, most int) family {
	return family{inputs, most, lists.Every(inputs, most)}
}

// families returns the families by which functions are held against their definitions.
func families() []family {
	return []family{of(1, 4), of(2, 2), of(3, 1)}
}

// larger is a list with its number of inputs.
type larger struct {
	inputs int
	l      [][]int
}

// largerLists returns lists with words that are too long for families, and more of them.
func largerLists() []larger {
	l := []larger{
		{16, lists.Of("15, 14 15, 15 14, 15 15, 0 0 15, 15 0 0")},
		{11, lists.Of("-, 10, 1 0, 10 10, 1 0 10")},
		{2, [][]int{lists.Repeat(1, 20), lists.Repeat(0, 30)}},
		{1, [][]int{lists.Repeat(0, 3), lists.Repeat(0, 200)}},
	}
	for seed := range 40 {
		inputs := 1 + seed%16
		l = append(l, larger{inputs, lists.Scattered(inputs, 5+2*seed, 1+seed%7, seed)})
	}
	return l
}

// wantList holds what was returned against a list.
func wantList(t *testing.T, name string, got [][]int, e api.Errno, want [][]int) {
	t.Helper()
	if e != api.OK || !lists.Same(got, want) {
		t.Errorf("%s: error %d, %d words %s; want %d: %s", name, e, len(got), lists.Brief(got), len(want), lists.Brief(want))
	}
	if !lists.Full(got) {
		t.Errorf("%s: more capacity than length", name)
	}
}

// wantRefused holds what was returned against an error.
func wantRefused(t *testing.T, name string, got [][]int, e, want api.Errno) {
	t.Helper()
	if e != want || len(got) != 0 {
		t.Errorf("%s: error %d, %d words %s; want error %d", name, e, len(got), lists.Brief(got), want)
	}
}

// P12.1
func TestCheck(t *testing.T) {
	for _, x := range []struct {
		name   string
		l      [][]int
		inputs int
	}{
		{"no words", nil, 1},
		{"no words in an empty slice", [][]int{}, 16},
		{"the empty word", lists.Of("-"), 1},
		{"the empty word as nil", [][]int{nil}, 16},
		{"ordinary", lists.Of("-, 0, 2, 0 1, 0 2, 1 0, 2 2, 0 0 0"), 3},
		{"longer words come later", lists.Of("1, 0 0"), 2},
		{"two digits", lists.Of("9, 10"), 11},
		{"greatest symbols", lists.Of("15, 15 15"), 16},
		{"longest word", [][]int{lists.Repeat(0, 256)}, 1},
		{"all words of one input", lists.All(1, 256, func([]int) bool { return true }), 1},
		{"as many words as there may be", lists.First(4096, 2, 12), 2},
		{"as many words as there may be, of 16 inputs", lists.First(4096, 16, 3), 16},
		{"as many symbols as there may be", lists.First(256, 16, 256), 16},
		{"as many symbols as there may be, and the empty word", slices.Concat(lists.Of("-"), lists.First(256, 16, 256)), 16},
		{"as many words and symbols as there may be", lists.First(4096, 2, 16), 2},
	} {
		if e := tries.Check(x.l, x.inputs); e != api.OK {
			t.Errorf("%s: error %d", x.name, e)
		}
	}
	for _, x := range lists.Refused() {
		if e := tries.Check(x.L, x.Inputs); e != x.Want {
			t.Errorf("%s: error %d; want error %d", x.Name, e, x.Want)
		}
	}
}

// P12.1
func TestCheckByTheDefinition(t *testing.T) {
	pool := [][]int{{}, {0}, {1}, {2}, {-1}, {0, 0}, {1, 0}, {0, 2}, lists.Repeat(0, 256), lists.Repeat(0, 257)}
	for choice := range words.All(len(pool), 4) {
		l := make([][]int, len(choice))
		for n, c := range choice {
			l[n] = pool[c]
		}
		want := api.OK
		for n := len(l) - 1; n > 0; n-- {
			if words.Compare(l[n-1], l[n]) != -1 {
				want = api.ErrArg
			}
		}
		for n := len(l) - 1; n >= 0; n-- {
			if e := words.Check(l[n], 2); e != api.OK {
				want = e
			}
		}
		if e := tries.Check(l, 2); e != want {
			t.Errorf("%s: error %d; want error %d", lists.Brief(l), e, want)
		}
	}
}

// P12.2
func TestSort(t *testing.T) {
	most := lists.First(4096, 16, 3)
	backwards := slices.Clone(most)
	slices.Reverse(backwards)
	longest := lists.First(256, 16, 256)
	for _, x := range []struct {
		name   string
		l      [][]int
		inputs int
		want   [][]int
	}{
		{"example", lists.Of("1 0, 1, 0, 1"), 2, lists.Of("0, 1, 1 0")},
		{"no words", nil, 2, nil},
		{"no words in an empty slice", [][]int{}, 2, nil},
		{"the empty word", lists.Of("-"), 1, lists.Of("-")},
		{"the empty word as nil, and again", [][]int{nil, {}, nil}, 1, lists.Of("-")},
		{"sorted already", lists.Of("-, 0, 1, 0 0"), 2, lists.Of("-, 0, 1, 0 0")},
		{"backwards", lists.Of("0 0, 1, 0, -"), 2, lists.Of("-, 0, 1, 0 0")},
		{"lengths before symbols", lists.Of("0 0 0, 0 1, 0, 1"), 2, lists.Of("0, 1, 0 1, 0 0 0")},
		{"two digits", lists.Of("15, 10, 9, 1, 1 15, 1 9, 10 1"), 16, lists.Of("1, 9, 10, 15, 1 9, 1 15, 10 1")},
		{"again and again", lists.Of("1, 0, 1, 0, 1, 1, 0"), 2, lists.Of("0, 1")},
		{"as many words as there may be", backwards, 16, most},
		{"as many words as there may be, all of them equal", slices.Repeat(lists.Of("0 1"), 4096), 2, lists.Of("0 1")},
		{"as many symbols as there may be", slices.Concat(longest[100:], longest[:100]), 16, longest},
		{"far more symbols, but few of different words", slices.Repeat([][]int{lists.Repeat(1, 256)}, 4096), 2, [][]int{lists.Repeat(1, 256)}},
		{"each of the longest words twice", slices.Concat(longest, longest), 16, longest},
	} {
		got, e := tries.Sort(x.l, x.inputs)
		wantList(t, x.name, got, e, x.want)
	}
	for _, x := range lists.Improper() {
		got, e := tries.Sort(x.L, x.Inputs)
		wantRefused(t, x.Name, got, e, x.Want)
	}
	for _, x := range lists.Unorderly() {
		got, e := tries.Sort(x.L, x.Inputs)
		if want := lists.Sorted(x.L); tries.Check(want, x.Inputs) == api.OK {
			wantList(t, x.Name, got, e, want)
		} else {
			wantRefused(t, x.Name, got, e, api.ErrLimit)
		}
	}
}

// P12.2
func TestSortByTheDefinition(t *testing.T) {
	pool := lists.Of("-, 0, 1, 0 0, 0 1, 1 0, 1 1 1")
	for choice := range words.All(len(pool), 5) {
		l := make([][]int, len(choice))
		for n, c := range choice {
			l[n] = pool[c]
		}
		got, e := tries.Sort(l, 2)
		want := lists.All(2, 3, func(w []int) bool { return lists.Has(l, w) })
		wantList(t, "Sort "+lists.Text(l), got, e, want)
	}
	for _, x := range largerLists() {
		l := slices.Concat(x.l, x.l)
		for n := range l {
			k := (n*n + 7) % len(l)
			l[n], l[k] = l[k], l[n]
		}
		got, e := tries.Sort(l, x.inputs)
		wantList(t, "Sort "+lists.Text(l), got, e, x.l)
	}
}

// P12.3
func TestReduce(t *testing.T) {
	for _, x := range []struct {
		l      string
		inputs int
		want   string
	}{
		{"-, 0, 1, 1 0", 2, "0, 1 0"},
		{"", 2, ""},
		{"-", 1, "-"},
		{"-, 0", 1, "0"},
		{"0, 1", 2, "0, 1"},
		{"0, 0 1, 1 0", 2, "0 1, 1 0"},
		{"1, 0 1", 2, "1, 0 1"},
		{"0, 0 0, 0 0 0, 0 0 0 0", 1, "0 0 0 0"},
		{"0, 0 0 0", 2, "0 0 0"},
		{"1, 15, 1 5, 15 1", 16, "1 5, 15 1"},
		{"1, 10", 11, "1, 10"},
		{"-, 0, 2, 0 1, 0 1 2", 3, "2, 0 1 2"},
	} {
		got, e := tries.Reduce(lists.Of(x.l), x.inputs)
		wantList(t, "Reduce "+x.l, got, e, lists.Of(x.want))
	}
	got, e := tries.Reduce(lists.All(1, 256, func([]int) bool { return true }), 1)
	wantList(t, "all words of one input", got, e, [][]int{lists.Repeat(0, 256)})
	for _, l := range [][][]int{lists.First(4096, 2, 16), lists.First(256, 16, 256)} {
		got, e = tries.Reduce(l, 16)
		wantList(t, "as many symbols as there may be", got, e, l)
	}
	for _, x := range lists.Refused() {
		got, e := tries.Reduce(x.L, x.Inputs)
		wantRefused(t, x.Name, got, e, x.Want)
	}
}

// P12.3
func TestSteps(t *testing.T) {
	for _, x := range []struct {
		l      [][]int
		inputs int
		want   int
	}{
		{nil, 1, 0},
		{lists.Of("-"), 16, 0},
		{lists.Of("0"), 1, 1},
		{lists.Of("-, 0, 2, 0 1, 0 1 2"), 3, 7},
		{lists.Of("0, 1, 0 0, 0 1, 1 0, 1 1"), 2, 10},
		{[][]int{lists.Repeat(0, 256)}, 1, 256},
		{lists.First(4096, 2, 12), 2, 49152},
		{lists.First(256, 16, 256), 16, 65536},
		{lists.First(4096, 2, 16), 2, 65536},
	} {
		if got, e := tries.Steps(x.l, x.inputs); got != x.want || e != api.OK {
			t.Errorf("Steps %s: %d, error %d; want %d", lists.Brief(x.l), got, e, x.want)
		}
	}
	for _, x := range lists.Refused() {
		if got, e := tries.Steps(x.L, x.Inputs); got != 0 || e != x.Want {
			t.Errorf("%s: %d, error %d; want error %d", x.Name, got, e, x.Want)
		}
	}
}

// P12.4
func TestPrefixes(t *testing.T) {
	for _, x := range []struct {
		l      string
		inputs int
		want   string
	}{
		{"1 0", 2, "-, 1, 1 0"},
		{"", 2, ""},
		{"-", 2, "-"},
		{"0", 1, "-, 0"},
		{"0, 1, 0 1 2", 3, "-, 0, 1, 0 1, 0 1 2"},
		{"0 1, 1 0", 2, "-, 0, 1, 0 1, 1 0"},
		{"2, 1 2, 0 1 2", 3, "-, 0, 1, 2, 0 1, 1 2, 0 1 2"},
		{"10 1, 1 10 0", 11, "-, 1, 10, 1 10, 10 1, 1 10 0"},
	} {
		got, e := tries.Prefixes(lists.Of(x.l), x.inputs)
		wantList(t, "Prefixes "+x.l, got, e, lists.Of(x.want))
	}
	for _, x := range lists.Refused() {
		got, e := tries.Prefixes(x.L, x.Inputs)
		wantRefused(t, x.Name, got, e, x.Want)
	}
}

// P12.4
func TestPrefixesUpToTheLimits(t *testing.T) {
	// 240 words of two symbols, 15 of one, and the empty one: 4096 prefixes together.
	words3840 := lists.First(3840, 16, 3)
	// 32896 symbols of one word's prefixes, and 32640 of the other one's: 65536 together.
	two := [][]int{lists.Repeat(1, 255), lists.Repeat(0, 256)}
	for _, x := range []struct {
		name   string
		l      [][]int
		inputs int
	}{
		{"one word", [][]int{lists.Repeat(0, 256)}, 1},
		{"as many words as there may be", words3840, 16},
		{"as many symbols as there may be", two, 2},
	} {
		got, e := tries.Prefixes(x.l, x.inputs)
		wantList(t, x.name, got, e, lists.Prefixes(x.l))
	}
	for _, x := range []struct {
		name   string
		l      [][]int
		inputs int
	}{
		{"a word too many", append(words3840, []int{15, 15, 15}), 16},
		{"too many words, but not too many symbols", lists.First(4096, 16, 3), 16},
		{"a symbol too many", slices.Concat(lists.Of("2"), two), 3},
		{"too many symbols, but not too many words", [][]int{lists.Repeat(0, 256), lists.Repeat(1, 256)}, 2},
		{"too many of both", lists.First(4096, 2, 16), 2},
		{"far too many", wide(), 16},
	} {
		got, e := tries.Prefixes(x.l, x.inputs)
		wantRefused(t, x.name, got, e, api.ErrLimit)
	}
}

// wide returns a list with as many symbols as there may be, and almost as many prefixes: its words differ in their first two symbols.
func wide() [][]int {
	l := lists.First(256, 16, 2)
	for n, w := range l {
		l[n] = append(w, lists.Repeat(n%7, 254)...)
	}
	return l
}

// P12.4
func TestUnionAndMinus(t *testing.T) {
	for _, x := range []struct {
		a, b         string
		union, minus string
	}{
		{"", "", "", ""},
		{"-", "", "-", "-"},
		{"", "-", "-", ""},
		{"-", "-", "-", ""},
		{"0, 1", "0, 1", "0, 1", ""},
		{"0, 0 0", "1, 1 0", "0, 1, 0 0, 1 0", "0, 0 0"},
		{"-, 0, 2, 0 1, 0 1 2", "0, 1, 0 1 2", "-, 0, 1, 2, 0 1, 0 1 2", "-, 2, 0 1"},
		{"0, 1, 0 1 2", "-, 0, 2, 0 1, 0 1 2", "-, 0, 1, 2, 0 1, 0 1 2", "1"},
		{"10, 1 0, 1 15", "1, 10, 15, 1 1", "1, 10, 15, 1 0, 1 1, 1 15", "1 0, 1 15"},
	} {
		got, e := tries.Union(lists.Of(x.a), lists.Of(x.b), 16)
		wantList(t, "Union "+x.a+" and "+x.b, got, e, lists.Of(x.union))
		got, e = tries.Minus(lists.Of(x.a), lists.Of(x.b), 16)
		wantList(t, x.a+" minus "+x.b, got, e, lists.Of(x.minus))
	}
}

// P12.4
func TestUnionAndMinusUpToTheLimits(t *testing.T) {
	most, longest := lists.First(4096, 16, 3), lists.First(256, 16, 256)
	for _, x := range []struct {
		name     string
		a, b     [][]int
		valid    bool
		together [][]int
	}{
		{"as many words as there may be, twice", most, most, true, most},
		{"as many words as there may be", most[:1000], most[1000:], true, most},
		{"as many words as there may be, some of them twice", most[500:], most[:3000], true, most},
		{"a word too many", most, lists.Of("-"), false, nil},
		{"a word too many in front", lists.Of("0"), most, false, nil},
		{"twice as many words as there may be", lists.First(4096, 2, 12), most, false, nil},
		{"as many symbols as there may be, twice", longest, longest, true, longest},
		{"as many symbols as there may be", longest[7:], longest[:7], true, longest},
		{"as many symbols as there may be, and the empty word", longest, lists.Of("-"), true, slices.Concat(lists.Of("-"), longest)},
		{"a symbol too many", longest, lists.Of("15"), false, nil},
		{"a symbol too many in front", lists.Of("0"), longest, false, nil},
	} {
		got, e := tries.Union(x.a, x.b, 16)
		if x.valid {
			wantList(t, x.name, got, e, x.together)
		} else {
			wantRefused(t, x.name, got, e, api.ErrLimit)
		}
		got, e = tries.Minus(x.a, x.b, 16)
		wantList(t, x.name, got, e, slices.DeleteFunc(slices.Clone(x.a), func(w []int) bool { return lists.Has(x.b, w) }))
	}
}

// P12.3, P12.4
func TestListsByTheDefinition(t *testing.T) {
	for _, f := range families() {
		for _, l := range f.lists {
			holdOne(t, f.inputs, l, lists.All(f.inputs, f.most, func(w []int) bool {
				return slices.ContainsFunc(l, func(v []int) bool { return words.Prefix(w, v) })
			}))
		}
	}
	for _, x := range largerLists() {
		holdOne(t, x.inputs, x.l, lists.Prefixes(x.l))
	}
}

// holdOne holds what is made of one list against the definitions.
func holdOne(t *testing.T, inputs int, l, prefixes [][]int) {
	t.Helper()
	got, e := tries.Reduce(l, inputs)
	wantList(t, "Reduce "+lists.Text(l), got, e, lists.Reduced(l))
	got, e = tries.Prefixes(l, inputs)
	wantList(t, "Prefixes "+lists.Text(l), got, e, prefixes)
	sum := 0
	for _, w := range l {
		sum += len(w)
	}
	if steps, e := tries.Steps(l, inputs); steps != sum || e != api.OK {
		t.Errorf("Steps %s: %d, error %d", lists.Text(l), steps, e)
	}
}

// P12.4, P12.6
func TestPairsByTheDefinition(t *testing.T) {
	for _, f := range families() {
		for n, a := range f.lists {
			for k, b := range f.lists {
				// With more than 32 lists, some of the pairs are enough.
				if len(f.lists) > 32 && (n*37+k)%5 != 0 {
					continue
				}
				holdPair(t, f, a, b)
			}
		}
	}
	for _, x := range largerLists() {
		for _, y := range largerLists() {
			inputs := max(x.inputs, y.inputs)
			got, e := tries.Union(x.l, y.l, inputs)
			wantList(t, "Union", got, e, lists.Sorted(slices.Concat(x.l, y.l)))
			got, e = tries.Minus(x.l, y.l, inputs)
			wantList(t, "Minus", got, e, slices.DeleteFunc(slices.Clone(x.l), func(w []int) bool { return lists.Has(y.l, w) }))
			if len(x.l)*len(y.l) > 1500 {
				continue
			}
			got, e = tries.Concat(x.l, y.l, inputs)
			if want := lists.Products(x.l, y.l); tries.Check(want, inputs) == api.OK {
				wantList(t, "Concat", got, e, want)
			} else {
				wantRefused(t, "Concat", got, e, api.ErrLimit)
			}
		}
	}
}

// holdPair holds what is made of two lists of a family against the definitions.
func holdPair(t *testing.T, f family, a, b [][]int) {
	t.Helper()
	names := lists.Text(a) + " and " + lists.Text(b)
	got, e := tries.Union(a, b, f.inputs)
	wantList(t, "Union "+names, got, e, lists.All(f.inputs, f.most, func(w []int) bool { return lists.Has(a, w) || lists.Has(b, w) }))
	got, e = tries.Minus(a, b, f.inputs)
	wantList(t, "Minus "+names, got, e, lists.All(f.inputs, f.most, func(w []int) bool { return lists.Has(a, w) && !lists.Has(b, w) }))
	got, e = tries.Concat(a, b, f.inputs)
	wantList(t, "Concat "+names, got, e, lists.All(f.inputs, 2*f.most, func(w []int) bool {
		for n := range len(w) + 1 {
			if lists.Has(a, w[:n]) && lists.Has(b, w[n:]) {
				return true
			}
		}
		return false
	}))
}

// P12.4, P12.6
func TestPairsAreRefused(t *testing.T) {
	for _, call := range []struct {
		name string
		make func(a, b [][]int, inputs int) ([][]int, api.Errno)
	}{{"Union", tries.Union}, {"Minus", tries.Minus}, {"Concat", tries.Concat}} {
		for _, x := range lists.Refused() {
			for _, l := range [][][]int{nil, lists.Of("-"), lists.Of("0"), lists.Of("1, 0"), {lists.Repeat(0, 257)}, {{math.MaxInt}}} {
				got, e := call.make(x.L, l, x.Inputs)
				wantRefused(t, call.name+", the first list: "+x.Name, got, e, x.Want)
			}
			for _, l := range [][][]int{nil, lists.Of("-"), lists.Of("0")} {
				if tries.Check(l, x.Inputs) == api.OK {
					got, e := call.make(l, x.L, x.Inputs)
					wantRefused(t, call.name+", the second list: "+x.Name, got, e, x.Want)
				}
			}
		}
		got, e := call.make(lists.First(4096, 16, 3), lists.Of("1, 0"), 16)
		wantRefused(t, call.name+", the second list before the limits", got, e, api.ErrArg)
		got, e = call.make([][]int{lists.Repeat(0, 256)}, [][]int{lists.Repeat(1, 256), lists.Repeat(0, 256)}, 2)
		wantRefused(t, call.name+", the second list before words that are too long", got, e, api.ErrArg)
	}
}

// P12.5
func TestHas(t *testing.T) {
	for _, x := range []struct {
		l      string
		w      []int
		inputs int
		want   bool
	}{
		{"", nil, 1, false},
		{"", []int{0}, 1, false},
		{"-", nil, 1, true},
		{"-", []int{}, 1, true},
		{"-", []int{0}, 1, false},
		{"0", nil, 1, false},
		{"-, 0, 2, 0 1, 0 1 2", nil, 3, true},
		{"-, 0, 2, 0 1, 0 1 2", []int{0}, 3, true},
		{"-, 0, 2, 0 1, 0 1 2", []int{1}, 3, false},
		{"-, 0, 2, 0 1, 0 1 2", []int{2}, 3, true},
		{"-, 0, 2, 0 1, 0 1 2", []int{0, 1}, 3, true},
		{"-, 0, 2, 0 1, 0 1 2", []int{0, 2}, 3, false},
		{"-, 0, 2, 0 1, 0 1 2", []int{0, 1, 2}, 3, true},
		{"-, 0, 2, 0 1, 0 1 2", []int{0, 1, 2, 0}, 3, false},
		{"0 1 0", []int{0, 1}, 2, false},
		{"10", []int{1, 0}, 11, false},
		{"1 0", []int{10}, 11, false},
	} {
		if got, e := tries.Has(lists.Of(x.l), x.w, x.inputs); got != x.want || e != api.OK {
			t.Errorf("Has %s: %v: %v, error %d", x.l, x.w, got, e)
		}
	}
	for _, f := range families() {
		for _, l := range f.lists {
			for w := range words.All(f.inputs, f.most+1) {
				if got, e := tries.Has(l, w, f.inputs); got != lists.Has(l, w) || e != api.OK {
					t.Errorf("Has %s: %v: %v, error %d", lists.Text(l), w, got, e)
				}
			}
		}
	}
	most := lists.First(4096, 16, 3)
	for _, w := range most {
		if got, e := tries.Has(most, w, 16); !got || e != api.OK {
			t.Errorf("%v, error %d with %v", got, e, w)
		}
	}
}

// P12.5
func TestHasRefuses(t *testing.T) {
	for _, x := range lists.Refused() {
		for _, w := range [][]int{nil, {0}, {99}, lists.Repeat(0, 257)} {
			if got, e := tries.Has(x.L, w, x.Inputs); got || e != x.Want {
				t.Errorf("%s: %v, error %d; want error %d", x.Name, got, e, x.Want)
			}
		}
	}
	for _, x := range []struct {
		name string
		w    []int
		want api.Errno
	}{
		{"symbol too great", []int{2}, api.ErrArg},
		{"symbol negative", []int{0, -1}, api.ErrArg},
		{"extreme symbols", []int{math.MinInt, math.MaxInt}, api.ErrArg},
		{"too long", lists.Repeat(0, 257), api.ErrLimit},
		{"too long before symbols", lists.Repeat(2, 257), api.ErrLimit},
	} {
		for _, l := range []string{"", "-", "0, 1, 0 0"} {
			if got, e := tries.Has(lists.Of(l), x.w, 2); got || e != x.want {
				t.Errorf("%s: %v, error %d; want error %d", x.name, got, e, x.want)
			}
		}
	}
}

// P12.6
func TestConcat(t *testing.T) {
	for _, x := range []struct{ a, b, want string }{
		{"-, 0", "0, 1", "0, 1, 0 0, 0 1"},
		{"", "", ""},
		{"", "-, 0, 1", ""},
		{"-, 0, 1", "", ""},
		{"-", "-", "-"},
		{"-", "0, 1 1", "0, 1 1"},
		{"0, 1 1", "-", "0, 1 1"},
		{"0", "1", "0 1"},
		{"-, 0", "-, 0", "-, 0, 0 0"},
		{"0, 0 1", "0, 1 0", "0 0, 0 1 0, 0 1 1 0"},
		{"1, 0 0", "1, 0 0", "1 1, 0 0 1, 1 0 0, 0 0 0 0"},
		{"0, 1, 0 1 2", "-, 0, 2, 0 1, 0 1 2", "0, 1, 0 0, 0 2, 1 0, 1 2, 0 0 1, 0 1 2, 1 0 1, 0 0 1 2, 0 1 2 0, 0 1 2 2, 1 0 1 2, 0 1 2 0 1, 0 1 2 0 1 2"},
		{"1, 10", "0, 10", "1 0, 1 10, 10 0, 10 10"},
	} {
		got, e := tries.Concat(lists.Of(x.a), lists.Of(x.b), 16)
		wantList(t, "Concat "+x.a+" and "+x.b, got, e, lists.Of(x.want))
	}
}

// zeros returns all words of at most so many symbols, all of them 0.
func zeros(most int) [][]int {
	return slices.Collect(words.All(1, most))
}

// P12.6
func TestConcatUpToTheLimits(t *testing.T) {
	symbols, ends := lists.First(16, 16, 1), lists.First(16, 16, 255)
	for _, x := range []struct {
		name       string
		a, b, want [][]int
	}{
		{"as long as there may be", [][]int{lists.Repeat(0, 128)}, [][]int{lists.Repeat(1, 128)}, [][]int{append(lists.Repeat(0, 128), lists.Repeat(1, 128)...)}},
		{"as long as there may be, the first one empty", lists.Of("-"), [][]int{lists.Repeat(1, 256)}, [][]int{lists.Repeat(1, 256)}},
		{"as long as there may be, the second one empty", [][]int{lists.Repeat(1, 256)}, lists.Of("-"), [][]int{lists.Repeat(1, 256)}},
		{"nothing, and then the longest", nil, [][]int{lists.Repeat(1, 256)}, nil},
		{"the longest, and then nothing", [][]int{lists.Repeat(1, 256)}, nil, nil},
		{"as many words as there may be", symbols, lists.First(256, 16, 2), lists.First(4096, 16, 3)},
		{"as many words as there may be, the other way", lists.First(256, 16, 2), symbols, lists.First(4096, 16, 3)},
		{"as many words as there may be, and the empty one", lists.First(4096, 16, 3), lists.Of("-"), lists.First(4096, 16, 3)},
		{"far more pairs, but few words", zeros(128), zeros(128), zeros(256)},
		{"as many symbols as there may be", symbols, ends, lists.Products(symbols, ends)},
	} {
		got, e := tries.Concat(x.a, x.b, 16)
		wantList(t, x.name, got, e, x.want)
	}
	for _, x := range []struct {
		name string
		a, b [][]int
	}{
		{"a symbol too long", [][]int{lists.Repeat(0, 129)}, [][]int{lists.Repeat(0, 128)}},
		{"a symbol too long in front", lists.Of("0"), [][]int{lists.Repeat(1, 256)}},
		{"a symbol too long behind", [][]int{lists.Repeat(1, 256)}, lists.Of("0")},
		{"twice as long", [][]int{lists.Repeat(0, 256)}, [][]int{lists.Repeat(1, 256)}},
		{"only one of them too long", lists.Of("-, 0"), slices.Concat(lists.Of("1"), [][]int{lists.Repeat(1, 256)})},
		{"only the last one too long", zeros(128), zeros(129)},
		// One word is made twice: 2 * 2049 - 1 words.
		{"a word too many", lists.Of("-, 0"), slices.Concat(lists.Of("-, 0"), lists.Products(lists.Of("1"), lists.First(2047, 16, 3)))},
		{"too many words", lists.First(4096, 16, 3), lists.Of("0, 1")},
		{"far too many words", lists.First(4096, 16, 3), lists.First(4096, 16, 3)},
		{"far too many words of different lengths", zeros(128), lists.First(4096, 16, 3)},
		// The 129 words have 32704 symbols, and each word is made with 0 in front, too: 2 * 32704 + 129 symbols.
		{"a symbol too many together", lists.Of("-, 0"), slices.Concat(lists.First(1, 2, 64), lists.Products(lists.Of("1"), lists.First(128, 2, 254)))},
		{"too many symbols together", slices.Concat(lists.Of("-"), symbols), ends},
	} {
		got, e := tries.Concat(x.a, x.b, 16)
		wantRefused(t, x.name, got, e, api.ErrLimit)
	}
}

// P12.7
func TestUptoAndExact(t *testing.T) {
	for _, x := range []struct {
		inputs, k   int
		upto, exact string
	}{
		{2, 0, "-", "-"},
		{16, 0, "-", "-"},
		{2, 1, "-, 0, 1", "0, 1"},
		{2, 2, "-, 0, 1, 0 0, 0 1, 1 0, 1 1", "0 0, 0 1, 1 0, 1 1"},
		{1, 3, "-, 0, 0 0, 0 0 0", "0 0 0"},
		{3, 2, "-, 0, 1, 2, 0 0, 0 1, 0 2, 1 0, 1 1, 1 2, 2 0, 2 1, 2 2", "0 0, 0 1, 0 2, 1 0, 1 1, 1 2, 2 0, 2 1, 2 2"},
		{11, 1, "-, 0, 1, 2, 3, 4, 5, 6, 7, 8, 9, 10", "0, 1, 2, 3, 4, 5, 6, 7, 8, 9, 10"},
	} {
		name := words.Text([]int{x.inputs, x.k})
		got, e := tries.Upto(x.inputs, x.k)
		wantList(t, "Upto "+name, got, e, lists.Of(x.upto))
		got, e = tries.Exact(x.inputs, x.k)
		wantList(t, "Exact "+name, got, e, lists.Of(x.exact))
	}
}

// The greatest lengths are those with at most 4096 words: none of these lists has too many symbols.
// P12.7
func TestUptoAndExactUpToTheLimits(t *testing.T) {
	upto := [...]int{1: 256, 2: 11, 3: 7, 4: 5, 5: 5, 6: 4, 7: 4, 8: 3, 9: 3, 10: 3, 11: 3, 12: 3, 13: 3, 14: 3, 15: 3, 16: 2}
	exact := [...]int{1: 256, 2: 12, 3: 7, 4: 6, 5: 5, 6: 4, 7: 4, 8: 4, 9: 3, 10: 3, 11: 3, 12: 3, 13: 3, 14: 3, 15: 3, 16: 3}
	for inputs := 1; inputs <= api.MaxInputs; inputs++ {
		for k := range upto[inputs] + 1 {
			got, e := tries.Upto(inputs, k)
			wantList(t, "Upto "+words.Text([]int{inputs, k}), got, e, slices.Collect(words.All(inputs, k)))
		}
		for k := range exact[inputs] + 1 {
			got, e := tries.Exact(inputs, k)
			want := [][]int{}
			for w := lists.Repeat(0, k); len(w) == k; w, _ = words.Next(w, inputs) {
				want = append(want, w)
				if len(w) == 256 {
					break
				}
			}
			wantList(t, "Exact "+words.Text([]int{inputs, k}), got, e, want)
		}
		for _, more := range []int{1, 2, 3, 10, 100, 300, 1 << 31, 1<<62 + 1, math.MaxInt - 256} {
			got, e := tries.Upto(inputs, upto[inputs]+more)
			wantRefused(t, "Upto "+words.Text([]int{inputs, upto[inputs] + more}), got, e, api.ErrLimit)
			got, e = tries.Exact(inputs, exact[inputs]+more)
			wantRefused(t, "Exact "+words.Text([]int{inputs, exact[inputs] + more}), got, e, api.ErrLimit)
		}
	}
}

// P12.7
func TestUptoAndExactRefuse(t *testing.T) {
	for _, x := range []struct {
		inputs, k int
		want      api.Errno
	}{
		{0, 0, api.ErrArg},
		{0, 1, api.ErrArg},
		{-1, 1, api.ErrArg},
		{math.MinInt, 0, api.ErrArg},
		{1, -1, api.ErrArg},
		{2, -1, api.ErrArg},
		{16, -1, api.ErrArg},
		{2, math.MinInt, api.ErrArg},
		{0, -1, api.ErrArg},
		{0, 1000, api.ErrArg},
		{math.MinInt, math.MaxInt, api.ErrArg},
		{17, 0, api.ErrLimit},
		{17, -1, api.ErrLimit},
		{math.MaxInt, math.MinInt, api.ErrLimit},
		{math.MaxInt, 1, api.ErrLimit},
		{1, 257, api.ErrLimit},
		{2, 13, api.ErrLimit},
		{2, 256, api.ErrLimit},
		{2, 257, api.ErrLimit},
		{2, math.MaxInt, api.ErrLimit},
		{16, math.MaxInt, api.ErrLimit},
	} {
		name := words.Text([]int{x.inputs, x.k})
		got, e := tries.Upto(x.inputs, x.k)
		wantRefused(t, "Upto "+name, got, e, x.want)
		got, e = tries.Exact(x.inputs, x.k)
		wantRefused(t, "Exact "+name, got, e, x.want)
	}
}
