package words

import (
	"math"
	"slices"
	"strings"
	"testing"

	"gauntlet/api"
)

// repeat returns a list of n equal numbers.
func repeat(number, n int) []int {
	return slices.Repeat([]int{number}, n)
}

// lists returns all lists of so many symbols, with the last symbol changing fastest.
func lists(inputs, length int) [][]int {
	if length == 0 {
		return [][]int{{}}
	}
	var all [][]int
	for _, w := range lists(inputs, length-1) {
		for symbol := range inputs {
			all = append(all, append(slices.Clone(w), symbol))
		}
	}
	return all
}

// upTo returns all words of at most so many symbols, in their order.
func upTo(inputs, most int) [][]int {
	var all [][]int
	for length := range most + 1 {
		all = append(all, lists(inputs, length)...)
	}
	return all
}

// wantWord fails unless a call returned this word, in memory of just its length.
func wantWord(t *testing.T, call string, got []int, e api.Errno, want []int) {
	t.Helper()
	if e != api.OK || !slices.Equal(got, want) {
		t.Errorf("%s: %v, error %d; want %v", call, got, e, want)
	}
	if cap(got) != len(got) {
		t.Errorf("%s: capacity %d of %d symbols", call, cap(got), len(got))
	}
}

// wantError fails unless a call returned this error and no word.
func wantError(t *testing.T, call string, got []int, e, want api.Errno) {
	t.Helper()
	if e != want || len(got) != 0 {
		t.Errorf("%s: %v, error %d; want error %d", call, got, e, want)
	}
}

// P1.1
func TestCheck(t *testing.T) {
	for _, x := range []struct {
		name   string
		w      []int
		inputs int
		want   api.Errno
	}{
		{"nil", nil, 1, api.OK},
		{"empty", []int{}, 16, api.OK},
		{"ordinary", []int{0, 2, 1}, 3, api.OK},
		{"greatest symbol", []int{15}, 16, api.OK},
		{"longest", repeat(0, 256), 1, api.OK},
		{"symbol too great", []int{0, 3}, 3, api.ErrArg},
		{"symbol negative", []int{0, -1}, 3, api.ErrArg},
		{"extreme symbols", []int{math.MinInt, math.MaxInt}, 3, api.ErrArg},
		{"no inputs", nil, 0, api.ErrArg},
		{"negative inputs", []int{0}, math.MinInt, api.ErrArg},
		{"too many inputs", nil, 17, api.ErrLimit},
		{"far too many inputs", []int{16}, math.MaxInt, api.ErrLimit},
		{"too long", repeat(0, 257), 1, api.ErrLimit},
		{"too long before no inputs", repeat(0, 257), 0, api.ErrLimit},
		{"too long before symbol", repeat(-1, 257), 1, api.ErrLimit},
		{"too many inputs before symbol", []int{-1}, 17, api.ErrLimit},
	} {
		if e := Check(x.w, x.inputs); e != x.want {
			t.Errorf("%s: error %d; want %d", x.name, e, x.want)
		}
	}
}

// P1.2
func TestCompareFollowsTheOrderOfWords(t *testing.T) {
	ordered := [][]int{nil, {math.MinInt}, {-1}, {0}, {1}, {math.MaxInt}, {-5, 9}, {0, 0}, {0, 1}, {1, 0}, {1, 1}, {0, 0, 0}, repeat(-1, 300), repeat(0, 301)}
	for i, a := range ordered {
		for k, b := range ordered {
			want := 0
			if i < k {
				want = -1
			}
			if i > k {
				want = 1
			}
			if c := Compare(a, b); c != want {
				t.Errorf("Compare(%v, %v) = %d; want %d", a, b, c, want)
			}
		}
	}
	if Compare(nil, []int{}) != 0 || Compare([]int{}, nil) != 0 {
		t.Error("nil and the empty list differ")
	}
}

// P1.2
func TestPrefix(t *testing.T) {
	for _, x := range []struct {
		a, b []int
		want bool
	}{
		{nil, nil, true},
		{nil, []int{}, true},
		{[]int{}, nil, true},
		{nil, []int{5}, true},
		{[]int{0}, []int{0, 1}, true},
		{[]int{0, 1}, []int{0, 1}, true},
		{[]int{-7, math.MaxInt}, []int{-7, math.MaxInt, 0}, true},
		{repeat(-1, 299), repeat(-1, 300), true},
		{[]int{0}, nil, false},
		{[]int{0, 1}, []int{0}, false},
		{[]int{1}, []int{0, 1}, false},
		{[]int{0, 2}, []int{0, 1}, false},
		{[]int{0, 1, 2}, []int{0, 2, 2}, false},
	} {
		if got := Prefix(x.a, x.b); got != x.want {
			t.Errorf("Prefix(%v, %v) = %v", x.a, x.b, got)
		}
	}
}

// P1.3
func TestConcat(t *testing.T) {
	w, e := Concat(3, []int{1}, nil, []int{0, 2}, []int{}, []int{1})
	wantWord(t, "several words", w, e, []int{1, 0, 2, 1})
	w, e = Concat(2, repeat(1, 100), repeat(0, 156))
	wantWord(t, "longest", w, e, append(repeat(1, 100), repeat(0, 156)...))
	w, e = Concat(2, slices.Repeat([][]int{nil}, 1000)...)
	wantWord(t, "many empty words", w, e, nil)
	for _, inputs := range []int{math.MinInt, 0, 5, 17, math.MaxInt} {
		w, e = Concat(inputs)
		wantWord(t, "no words", w, e, nil)
	}
}

// P1.3
func TestConcatRefuses(t *testing.T) {
	for _, x := range []struct {
		name   string
		inputs int
		l      [][]int
		want   api.Errno
	}{
		{"too long together", 2, [][]int{repeat(0, 256), {0}}, api.ErrLimit},
		{"one too long", 2, [][]int{{0}, repeat(0, 257)}, api.ErrLimit},
		{"symbol", 2, [][]int{{0}, {2}}, api.ErrArg},
		{"no inputs", 0, [][]int{nil}, api.ErrArg},
		{"too many inputs", 17, [][]int{nil}, api.ErrLimit},
		{"first error is of a symbol", 2, [][]int{{-1}, repeat(0, 257)}, api.ErrArg},
		{"first error is of a length", 2, [][]int{repeat(0, 257), {-1}}, api.ErrLimit},
		{"symbol before length together", 2, [][]int{repeat(0, 200), repeat(0, 200), {2}}, api.ErrArg},
	} {
		w, e := Concat(x.inputs, x.l...)
		wantError(t, x.name, w, e, x.want)
	}
}

// P1.4
func TestNext(t *testing.T) {
	for _, x := range []struct {
		w      []int
		inputs int
		want   []int
	}{
		{nil, 1, []int{0}},
		{[]int{}, 2, []int{0}},
		{[]int{0}, 1, []int{0, 0}},
		{[]int{0, 1}, 2, []int{1, 0}},
		{[]int{1, 1}, 2, []int{0, 0, 0}},
		{[]int{0, 15, 15}, 16, []int{1, 0, 0}},
		{[]int{2, 0, 2}, 3, []int{2, 1, 0}},
		{repeat(0, 255), 1, repeat(0, 256)},
		{repeat(0, 256), 2, append(repeat(0, 255), 1)},
		{append([]int{0}, repeat(1, 255)...), 2, append([]int{1}, repeat(0, 255)...)},
	} {
		w, e := Next(x.w, x.inputs)
		wantWord(t, "Next "+Text(x.w), w, e, x.want)
	}
}

// P1.4
func TestNextRefuses(t *testing.T) {
	for _, x := range []struct {
		name   string
		w      []int
		inputs int
		want   api.Errno
	}{
		{"last word of one input", repeat(0, 256), 1, api.ErrLimit},
		{"last word of 16 inputs", repeat(15, 256), 16, api.ErrLimit},
		{"too long", repeat(0, 257), 2, api.ErrLimit},
		{"too many inputs", nil, 17, api.ErrLimit},
		{"no inputs", nil, 0, api.ErrArg},
		{"symbol", []int{0, 2}, 2, api.ErrArg},
		{"symbol of a longest word", append(repeat(1, 255), 2), 2, api.ErrArg},
	} {
		w, e := Next(x.w, x.inputs)
		wantError(t, x.name, w, e, x.want)
	}
}

// P1.5
func TestRankAndAt(t *testing.T) {
	for _, x := range []struct {
		w            []int
		inputs, rank int
	}{
		{nil, 1, 0},
		{nil, 16, 0},
		{[]int{1}, 2, 2},
		{[]int{0, 0}, 2, 3},
		{[]int{1, 0, 1}, 2, 12},
		{repeat(0, 5), 1, 5},
		{repeat(0, 256), 1, 256},
		{[]int{15}, 16, 16},
		{[]int{0, 0}, 16, 17},
		{repeat(1, 61), 2, 1<<62 - 2},
		{repeat(0, 62), 2, MaxRank},
	} {
		rank, e := Rank(x.w, x.inputs)
		if e != api.OK || rank != x.rank {
			t.Errorf("Rank(%v) with %d inputs: %d, error %d; want %d", x.w, x.inputs, rank, e, x.rank)
		}
		w, e := At(x.rank, x.inputs)
		wantWord(t, "At "+Text([]int{x.rank}), w, e, x.w)
	}
}

// P1.5
func TestRankRefuses(t *testing.T) {
	for _, x := range []struct {
		name   string
		w      []int
		inputs int
		want   api.Errno
	}{
		{"above MaxRank by one", append(repeat(0, 61), 1), 2, api.ErrLimit},
		{"above MaxRank", repeat(1, 62), 2, api.ErrLimit},
		{"far above MaxRank", repeat(15, 256), 16, api.ErrLimit},
		{"longest of two inputs", repeat(0, 256), 2, api.ErrLimit},
		{"too long", repeat(0, 257), 1, api.ErrLimit},
		{"too many inputs", nil, 17, api.ErrLimit},
		{"no inputs", nil, 0, api.ErrArg},
		{"symbol", []int{2}, 2, api.ErrArg},
		{"symbol before the rank", append(repeat(1, 255), 2), 2, api.ErrArg},
	} {
		rank, e := Rank(x.w, x.inputs)
		if e != x.want || rank != 0 {
			t.Errorf("%s: %d, error %d; want error %d", x.name, rank, e, x.want)
		}
	}
}

// P1.5
func TestAtRefuses(t *testing.T) {
	for _, x := range []struct {
		name         string
		rank, inputs int
		want         api.Errno
	}{
		{"one input, too long", 257, 1, api.ErrLimit},
		{"one input, far too long", MaxRank, 1, api.ErrLimit},
		{"negative", -1, 2, api.ErrArg},
		{"least number", math.MinInt, 16, api.ErrArg},
		{"above MaxRank", MaxRank + 1, 2, api.ErrArg},
		{"above MaxRank with one input", MaxRank + 1, 1, api.ErrArg},
		{"greatest number", math.MaxInt, 16, api.ErrArg},
		{"no inputs", 0, 0, api.ErrArg},
		{"negative inputs", 300, math.MinInt, api.ErrArg},
		{"too many inputs", 0, 17, api.ErrLimit},
		{"too many inputs before the rank", -1, 17, api.ErrLimit},
	} {
		w, e := At(x.rank, x.inputs)
		wantError(t, x.name, w, e, x.want)
	}
}

// The greatest ranks have words for any number of inputs from 2 on: no step of either way overflows.
// P1.5
func TestGreatestRanks(t *testing.T) {
	for inputs := 2; inputs <= api.MaxInputs; inputs++ {
		for rank := MaxRank - 20; rank <= MaxRank; rank++ {
			w, e := At(rank, inputs)
			if back, f := Rank(w, inputs); e != api.OK || f != api.OK || back != rank {
				t.Errorf("rank %d with %d inputs: %v, back %d", rank, inputs, w, back)
			}
		}
		last, _ := At(MaxRank, inputs)
		above, _ := Next(last, inputs)
		if rank, e := Rank(above, inputs); e != api.ErrLimit || rank != 0 {
			t.Errorf("behind the greatest rank with %d inputs: %d, error %d", inputs, rank, e)
		}
	}
}

// P1.6
func TestAll(t *testing.T) {
	for _, x := range []struct{ inputs, most int }{{1, 0}, {1, 3}, {2, 0}, {2, 4}, {3, 3}, {16, 2}} {
		var got [][]int
		for w := range All(x.inputs, x.most) {
			if cap(w) != len(w) {
				t.Errorf("capacity %d of %d symbols", cap(w), len(w))
			}
			got = append(got, w)
		}
		if !slices.EqualFunc(got, upTo(x.inputs, x.most), slices.Equal) {
			t.Errorf("%d inputs, at most %d symbols: %v", x.inputs, x.most, got)
		}
	}
	longest := slices.Collect(All(1, 256))
	if len(longest) != 257 || len(longest[256]) != 256 {
		t.Errorf("words of one input: %d", len(longest))
	}
}

// P1.6
func TestAllYieldsNothing(t *testing.T) {
	for _, x := range []struct{ inputs, most int }{{0, 1}, {-1, 1}, {17, 1}, {math.MaxInt, 0}, {math.MinInt, 0}, {2, -1}, {2, 257}, {1, 257}, {1, math.MaxInt}, {1, math.MinInt}} {
		for w := range All(x.inputs, x.most) {
			t.Errorf("%d inputs, at most %d symbols: %v", x.inputs, x.most, w)
			break
		}
	}
}

// P1.6
func TestAllCanBeLeftRepeatedAndChanged(t *testing.T) {
	all := All(2, 3)
	for w := range all {
		if len(w) == 2 {
			break
		}
	}
	var got [][]int
	for w := range all {
		got = append(got, slices.Clone(w))
		for i := range w {
			w[i] = 99
		}
		_ = append(w, 99)
	}
	if !slices.EqualFunc(got, upTo(2, 3), slices.Equal) {
		t.Errorf("after a first loop and changes: %v", got)
	}
	kept := slices.Collect(all)
	for i, w := range kept {
		for k := range w {
			w[k] = -i
		}
	}
	for i, w := range kept {
		if slices.ContainsFunc(w, func(symbol int) bool { return symbol != -i }) {
			t.Errorf("word %d shares its memory: %v", i, w)
		}
	}
}

// P1.7
func TestText(t *testing.T) {
	for _, x := range []struct {
		w    []int
		want string
	}{
		{nil, "-"},
		{[]int{}, "-"},
		{[]int{0}, "0"},
		{[]int{0, 10, 2}, "0 10 2"},
		{[]int{-1}, "-1"},
		{[]int{0, -1, -20}, "0 -1 -20"},
		{[]int{math.MinInt64, math.MaxInt64}, "-9223372036854775808 9223372036854775807"},
		{repeat(7, 300), strings.Repeat("7 ", 299) + "7"},
	} {
		if s := Text(x.w); s != x.want {
			t.Errorf("Text(%v) = %q", x.w, s)
		}
	}
}

// P1.7
func TestParse(t *testing.T) {
	for _, x := range []struct {
		s      string
		inputs int
		want   []int
	}{
		{"-", 1, nil},
		{"0", 1, []int{0}},
		{"0 10 2", 11, []int{0, 10, 2}},
		{"15", 16, []int{15}},
		{strings.Repeat("1 ", 255) + "0", 2, append(repeat(1, 255), 0)},
	} {
		w, e := Parse(x.s, x.inputs)
		wantWord(t, x.s, w, e, x.want)
	}
}

// P1.7
func TestParseRefusesForms(t *testing.T) {
	for _, s := range []string{
		"", " ", "  ", "0 ", " 0", "0  1", "0\t1", "0\n", "0\u00a01", "0,1",
		"01", "00", "0 01", "-0", "-1", "0 -1", "- 0", "0 -", "- -", "--", "+1",
		"a", "1a", "0x1", "1_0", "1e1", "1.0", "\u0661", "/", ":", "\x00", "\xff",
		"1000000000", "0000000001", "99999999999999999999999",
	} {
		for _, inputs := range []int{2, 0, 17} {
			w, e := Parse(s, inputs)
			wantError(t, s, w, e, api.ErrForm)
		}
	}
}

// P1.7
func TestParseRefusesInOrder(t *testing.T) {
	for _, x := range []struct {
		name   string
		s      string
		inputs int
		want   api.Errno
	}{
		{"greatest number", "999999999", 2, api.ErrArg},
		{"symbol", "0 2", 2, api.ErrArg},
		{"no inputs", "-", 0, api.ErrArg},
		{"too many inputs", "0", 17, api.ErrLimit},
		{"too many symbols", strings.Repeat("0 ", 256) + "0", 2, api.ErrLimit},
		{"form before too many symbols", strings.Repeat("0 ", 257), 2, api.ErrForm},
		{"form before symbol", "5 x", 2, api.ErrForm},
		{"just not too long, wrong form", strings.Repeat("x", 65536), 2, api.ErrForm},
		{"too long before form", strings.Repeat("x", 65537), 2, api.ErrLimit},
		{"too long before no inputs", strings.Repeat("0 ", 32768) + "0", 0, api.ErrLimit},
	} {
		w, e := Parse(x.s, x.inputs)
		wantError(t, x.name, w, e, x.want)
	}
}

// P1.8
func TestWordsWithAPrefixFollowEachOther(t *testing.T) {
	all := slices.Collect(All(3, 4))
	for _, prefix := range upTo(3, 4) {
		for length := len(prefix); length <= 4; length++ {
			var at []int
			for i, w := range all {
				if len(w) == length && Prefix(prefix, w) {
					at = append(at, i)
				}
			}
			count := 1
			for range length - len(prefix) {
				count *= 3
			}
			if len(at) != count || at[count-1]-at[0] != count-1 {
				t.Errorf("words of %d symbols that begin with %v: at %v", length, prefix, at)
			}
		}
	}
}

// P1.8
func TestRankAtNextAndTextsAgree(t *testing.T) {
	for inputs := 1; inputs <= api.MaxInputs; inputs++ {
		var before []int
		for rank := range 200 {
			w, e := At(rank, inputs)
			back, f := Rank(w, inputs)
			if e != api.OK || f != api.OK || back != rank {
				t.Fatalf("rank %d with %d inputs: %v, back %d", rank, inputs, w, back)
			}
			if rank > 0 {
				next, g := Next(before, inputs)
				wantWord(t, "Next "+Text(before), next, g, w)
				if Compare(before, w) != -1 || Compare(w, before) != 1 {
					t.Errorf("%v and %v are not in order", before, w)
				}
			}
			read, g := Parse(Text(w), inputs)
			wantWord(t, "read again", read, g, w)
			before = w
		}
	}
}

// Rules R1 and R4: arguments stay as they are, and results share no memory with them.
func TestArgumentsAreNeitherChangedNorShared(t *testing.T) {
	w := append(make([]int, 0, 8), 0, 1, 1)
	next, _ := Next(w, 2)
	one, _ := Concat(2, w)
	two, _ := Concat(2, w, w)
	Rank(w, 2)
	for _, result := range [][]int{next, one, two} {
		for i := range result {
			result[i] = 99
		}
	}
	if !slices.Equal(w, []int{0, 1, 1}) || !slices.Equal(w[:8][3:], repeat(0, 5)) {
		t.Errorf("changed: %v", w[:8])
	}
}
