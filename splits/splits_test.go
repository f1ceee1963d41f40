package splits

import (
	"math"
	"slices"
	"testing"

	"gauntlet/api"
	"gauntlet/classes"
	"gauntlet/machines"
	"gauntlet/samples"
	"gauntlet/words"
)

// none is the undefined edge.
var none = api.Edge{To: api.None, Out: api.None}

// example returns the machine of the chapter's examples.
func example() api.Machine {
	return samples.Machine(2, 2,
		[]api.Edge{{To: 1, Out: 0}, {To: 0, Out: 0}},
		[]api.Edge{{To: 2, Out: 0}, {To: 0, Out: 0}},
		[]api.Edge{{To: 2, Out: 1}, {To: 1, Out: 0}})
}

// forks returns a machine in which 2 and 3 are told apart by 2, 1 and 4 by 0 2 and by 1 2, and 0 and 5 by 1 0 2 and by 2 1 2, but by no word that begins with 0.
func forks() api.Machine {
	return samples.Machine(3, 2,
		[]api.Edge{{To: 0, Out: 0}, {To: 1, Out: 0}, {To: 1, Out: 0}},
		[]api.Edge{{To: 2, Out: 0}, {To: 2, Out: 0}, {To: 0, Out: 0}},
		[]api.Edge{{To: 2, Out: 0}, {To: 2, Out: 0}, {To: 2, Out: 1}},
		[]api.Edge{{To: 3, Out: 0}, {To: 3, Out: 0}, {To: 3, Out: 0}},
		[]api.Edge{{To: 3, Out: 0}, {To: 3, Out: 0}, {To: 0, Out: 0}},
		[]api.Edge{{To: 0, Out: 0}, {To: 4, Out: 0}, {To: 4, Out: 0}})
}

// large returns machines with more states than can be tried with all words.
func large() []api.Machine {
	l := append(samples.Large(), forks())
	for seed := range 20 {
		for _, inputs := range []int{1, 2, 3} {
			l = append(l, samples.Scattered(5+seed, inputs, seed))
		}
	}
	return append(l, samples.Scattered(64, 1, 1), samples.Scattered(64, 2, 2), samples.Scattered(64, 16, 3))
}

// zeros returns a word with so many symbols, all of them 0.
func zeros(symbols int) []int {
	return make([]int, symbols)
}

// upTo returns the numbers from 0 to n - 1: the partition in which each is alone.
func upTo(n int) []int {
	l := make([]int, n)
	for i := range l {
		l[i] = i
	}
	return l
}

// responseOf returns by the definition the response of a state to a word.
func responseOf(m api.Machine, s int, w []int) []int {
	response := slices.Repeat([]int{api.None}, len(w))
	for n, i := range w {
		x := m.Rows[s][i]
		if x == none {
			break
		}
		response[n], s = x.Out, x.To
	}
	return response
}

// separatesOf reports by the definition whether a word separates two states.
func separatesOf(m api.Machine, w []int, s, t int) bool {
	return !slices.Equal(responseOf(m, s, w), responseOf(m, t, w))
}

// wordOf returns by the definition the separating word of two states. Words with fewer symbols than there are states would be enough; these have up to two more.
func wordOf(m api.Machine, s, t int) ([]int, bool) {
	for w := range words.All(m.Inputs, len(m.Rows)+1) {
		if separatesOf(m, w, s, t) {
			return w, true
		}
	}
	return nil, false
}

// searched returns the separating word of two states by another way than the program: all pairs to which words lead are gone through in the order of these words, until an input has two outputs.
func searched(m api.Machine, s, t int) ([]int, bool) {
	type arrival struct {
		s, t int
		path []int
	}
	met := map[[2]int]bool{{s, t}: true}
	queue := []arrival{{s, t, nil}}
	for next := 0; next < len(queue); next++ {
		now := queue[next]
		for i, x := range m.Rows[now.s] {
			y := m.Rows[now.t][i]
			path := append(slices.Clone(now.path), i)
			if x.Out != y.Out {
				return path, true
			}
			if x == none || met[[2]int{x.To, y.To}] {
				continue
			}
			met[[2]int{x.To, y.To}] = true
			queue = append(queue, arrival{x.To, y.To, path})
		}
	}
	return nil, false
}

// tableOf returns the table of a machine, with its separating words by a function.
func tableOf(m api.Machine, separating func(m api.Machine, s, t int) ([]int, bool)) []Pair {
	var table []Pair
	for s := range m.Rows {
		for t := range m.Rows {
			if s < t {
				w, apart := separating(m, s, t)
				table = append(table, Pair{s, t, w, apart})
			}
		}
	}
	return table
}

// samePair reports whether pairs are equal; a nil word is an empty one.
func samePair(p, q Pair) bool {
	return p.S == q.S && p.T == q.T && slices.Equal(p.Word, q.Word) && p.Apart == q.Apart
}

// P8.1
func TestSeparate(t *testing.T) {
	for _, x := range []struct {
		name string
		m    api.Machine
		s, t int
		want []int
	}{
		{"example", example(), 0, 2, []int{0}},
		{"example, two symbols", example(), 0, 1, []int{0, 0}},
		{"example, one state", example(), 1, 1, nil},
		{"example, last states", example(), 1, 2, []int{0}},
		{"example, the other way", example(), 2, 0, []int{0}},
		{"example, two symbols, the other way", example(), 1, 0, []int{0, 0}},
		{"least of one symbol", forks(), 3, 2, []int{2}},
		{"least of two symbols", forks(), 1, 4, []int{0, 2}},
		{"least of three symbols", forks(), 0, 5, []int{1, 0, 2}},
		{"a shorter word with a greater symbol comes first", samples.Machine(2, 2, []api.Edge{{To: 1, Out: 0}, {To: 0, Out: 0}}, []api.Edge{{To: 1, Out: 0}, {To: 0, Out: 1}}), 0, 1, []int{1}},
		{"a lesser symbol that leads to a longer word comes later", samples.Machine(2, 2, []api.Edge{{To: 2, Out: 0}, {To: 3, Out: 0}}, []api.Edge{{To: 4, Out: 0}, {To: 4, Out: 0}}, []api.Edge{{To: 3, Out: 0}, {To: 3, Out: 0}}, []api.Edge{{To: 3, Out: 1}, {To: 3, Out: 0}}, []api.Edge{{To: 4, Out: 0}, {To: 4, Out: 0}}), 0, 1, []int{1, 0}},
		{"both inputs tell", samples.Machine(2, 2, []api.Edge{{To: 0, Out: 0}, {To: 0, Out: 0}}, []api.Edge{{To: 0, Out: 1}, {To: 0, Out: 1}}), 0, 1, []int{0}},
		{"equivalent", samples.Machine(1, 2, []api.Edge{{To: 1, Out: 1}}, []api.Edge{{To: 0, Out: 1}}), 0, 1, nil},
		{"nothing defined", samples.Machine(2, 2, []api.Edge{none, none}, []api.Edge{none, none}), 0, 1, nil},
		{"the first edge undefined", samples.Machine(1, 1, []api.Edge{none}, []api.Edge{{To: 1}}), 0, 1, []int{0}},
		{"the second edge undefined", samples.Machine(1, 1, []api.Edge{{To: 0}}, []api.Edge{none}), 0, 1, []int{0}},
		{"undefined later", samples.Machine(2, 1, []api.Edge{none, {To: 2}}, []api.Edge{none, {To: 0}}, []api.Edge{{To: 0}, none}), 0, 1, []int{1, 0}},
		{"states that are not reached", samples.Machine(1, 2, []api.Edge{{To: 0}}, []api.Edge{{To: 2}}, []api.Edge{{To: 2, Out: 1}}), 0, 1, []int{0, 0}},
		{"only state", samples.Machine(1, 1, []api.Edge{{}}), 0, 0, nil},
		{"chain, first and last", samples.Chain(64), 0, 63, zeros(1)},
		{"chain, in the middle", samples.Chain(64), 31, 20, zeros(33)},
		{"chain, as late as possible", samples.Chain(64), 0, 1, zeros(63)},
		{"ring", samples.Ring(64), 3, 20, zeros(1)},
		{"ring, equivalent", samples.Ring(64), 3, 19, nil},
		{"ring of 63", samples.Ring(63), 0, 16, zeros(48)},
		{"largest", samples.Largest(), 0, 63, nil},
		{"largest, an edge less", samples.LargestBut(none), 5, 63, []int{15}},
		{"largest, another output", samples.LargestBut(api.Edge{To: 15, Out: 14}), 62, 63, []int{15}},
		{"largest, another output later", samples.LargestBut(api.Edge{To: 15, Out: 14}), 61, 62, []int{0, 15}},
		{"largest, the least symbol that leads there alone", samples.LargestBut(api.Edge{To: 15, Out: 14}), 46, 47, []int{15, 15}},
		{"largest, the first states", samples.LargestBut(none), 0, 2, []int{12, 15, 15, 15, 15}},
	} {
		got, apart, e := Separate(x.m, x.s, x.t)
		if !slices.Equal(got, x.want) || apart != (len(x.want) > 0) || e != api.OK || cap(got) != len(got) {
			t.Errorf("%s: %v, %v, error %d, capacity %d; want %v", x.name, got, apart, e, cap(got), x.want)
		}
	}
}

// notStates are pairs of numbers of which at least one is no state of a machine with three states.
func notStates() [][2]int {
	var l [][2]int
	for _, s := range []int{3, -1, 64, math.MinInt, math.MaxInt} {
		l = append(l, [2]int{s, 0}, [2]int{0, s}, [2]int{s, 2}, [2]int{2, s}, [2]int{s, s})
	}
	return append(l, [2]int{math.MinInt, math.MaxInt}, [2]int{math.MaxInt, -1})
}

// P8.1
func TestSeparateRefusesStatesThatAreNot(t *testing.T) {
	for _, x := range notStates() {
		if w, apart, e := Separate(example(), x[0], x[1]); len(w) != 0 || apart || e != api.ErrArg {
			t.Errorf("%v: %v, %v, error %d", x, w, apart, e)
		}
	}
	for _, x := range [][2]int{{64, 64}, {63, 64}, {64, 63}, {-1, 64}} {
		if w, apart, e := Separate(samples.Chain(64), x[0], x[1]); len(w) != 0 || apart || e != api.ErrArg {
			t.Errorf("chain, %v: %v, %v, error %d", x, w, apart, e)
		}
	}
}

// checkSeparate holds what Separate returns for any two states of a machine against another function.
func checkSeparate(t *testing.T, m api.Machine, separating func(m api.Machine, s, t int) ([]int, bool)) {
	t.Helper()
	for s := range m.Rows {
		for u := range m.Rows {
			want, is := separating(m, s, u)
			got, apart, e := Separate(m, s, u)
			if !slices.Equal(got, want) || apart != is || e != api.OK {
				t.Errorf("Separate(%v, %d, %d) = %v, %v, error %d; want %v, %v", m, s, u, got, apart, e, want, is)
			}
		}
	}
}

// P8.1
func TestSeparateFollowsTheDefinition(t *testing.T) {
	for _, m := range append(samples.Small(), example(), forks()) {
		checkSeparate(t, m, wordOf)
	}
	for seed := range 30 {
		checkSeparate(t, samples.Scattered(4, 3, seed), wordOf)
		checkSeparate(t, samples.Scattered(5, 2, seed), wordOf)
		checkSeparate(t, samples.Scattered(6+seed%4, 2+seed%3, seed), searched)
	}
}

// P8.2
func TestSeparates(t *testing.T) {
	for _, x := range []struct {
		name string
		m    api.Machine
		w    []int
		s, t int
		want bool
	}{
		{"example", example(), []int{1, 0}, 0, 2, false},
		{"example, too short", example(), []int{1, 1, 0}, 0, 2, false},
		{"example, late", example(), []int{1, 0, 0}, 0, 2, true},
		{"example, the separating word", example(), []int{0}, 0, 2, true},
		{"example, the separating word, the other way", example(), []int{0}, 2, 0, true},
		{"example, the separating word and more", example(), []int{0, 1, 1}, 0, 2, true},
		{"one state", example(), []int{0, 0, 0}, 1, 1, false},
		{"nil", example(), nil, 0, 2, false},
		{"empty", example(), []int{}, 0, 2, false},
		{"the first output only", samples.Machine(1, 2, []api.Edge{{To: 0}}, []api.Edge{{To: 0, Out: 1}}), zeros(9), 0, 1, true},
		{"the first edge undefined", samples.Machine(1, 1, []api.Edge{none}, []api.Edge{{To: 1}}), zeros(1), 0, 1, true},
		{"both edges undefined", samples.Machine(1, 1, []api.Edge{none}, []api.Edge{none}), zeros(256), 0, 1, false},
		{"none is not another none behind it", samples.Machine(2, 2, []api.Edge{none, {To: 0}}, []api.Edge{none, {To: 1, Out: 1}}), []int{0, 1}, 0, 1, false},
		{"chain", samples.Chain(64), zeros(62), 0, 1, false},
		{"chain, as late as possible", samples.Chain(64), zeros(63), 0, 1, true},
		{"the longest word", samples.Chain(64), zeros(256), 62, 63, true},
		{"the longest word, equivalent states", samples.Ring(64), zeros(256), 0, 48, false},
		{"ring of 63", samples.Ring(63), zeros(47), 0, 16, false},
		{"ring of 63", samples.Ring(63), zeros(48), 0, 16, true},
		{"largest", samples.Largest(), slices.Repeat([]int{15}, 256), 0, 63, false},
		{"largest, an edge less", samples.LargestBut(none), slices.Repeat([]int{15}, 256), 0, 63, true},
	} {
		if got, e := Separates(x.m, x.w, x.s, x.t); got != x.want || e != api.OK {
			t.Errorf("%s: %v, error %d; want %v", x.name, got, e, x.want)
		}
	}
}

// refusedWord is a list that is no word over two inputs, with its error.
type refusedWord struct {
	w    []int
	want api.Errno
}

// notWords returns lists that are no words over two inputs.
func notWords() []refusedWord {
	return []refusedWord{
		{[]int{2}, api.ErrArg},
		{[]int{-1}, api.ErrArg},
		{[]int{0, 1, 0, 2}, api.ErrArg},
		{[]int{math.MaxInt}, api.ErrArg},
		{[]int{0, math.MinInt, 0}, api.ErrArg},
		{append(zeros(255), 2), api.ErrArg},
		{zeros(257), api.ErrLimit},
		{zeros(70000), api.ErrLimit},
		{slices.Repeat([]int{-1}, 257), api.ErrLimit},
	}
}

// P8.2
func TestSeparatesRefuses(t *testing.T) {
	for _, x := range notWords() {
		for _, states := range [][2]int{{0, 1}, {2, 0}, {1, 1}} {
			if is, e := Separates(example(), x.w, states[0], states[1]); is || e != x.want {
				t.Errorf("%d symbols, %v: %v, error %d; want error %d", len(x.w), states, is, e, x.want)
			}
		}
		// A symbol is not valid, even behind the first undefined edge.
		if is, e := Separates(samples.Machine(2, 1, []api.Edge{none, none}), x.w, 0, 0); is || e != x.want {
			t.Errorf("%d symbols, nothing defined: %v, error %d; want error %d", len(x.w), is, e, x.want)
		}
	}
	for _, states := range notStates() {
		for _, w := range [][]int{nil, {0}, {2}, zeros(256), zeros(257)} {
			if is, e := Separates(example(), w, states[0], states[1]); is || e != api.ErrArg {
				t.Errorf("%v, %d symbols: %v, error %d", states, len(w), is, e)
			}
		}
	}
}

// P8.2, P8.4
func TestWordsFollowTheDefinition(t *testing.T) {
	for _, m := range append(samples.Small(), example(), forks(), samples.Scattered(6, 2, 1)) {
		for w := range words.All(m.Inputs, 3) {
			p, e := After(m, w)
			if e != api.OK || len(p) != len(m.Rows) || classes.Check(p) != api.OK {
				t.Fatalf("After(%v, %v) = %v, error %d", m, w, p, e)
			}
			for s := range m.Rows {
				for u := range m.Rows {
					want := separatesOf(m, w, s, u)
					if is, e := Separates(m, w, s, u); is != want || e != api.OK {
						t.Errorf("Separates(%v, %v, %d, %d) = %v, error %d", m, w, s, u, is, e)
					}
					if apart := p[s] != p[u]; apart != want {
						t.Errorf("After(%v, %v) = %v; want %v for %d and %d", m, w, p, want, s, u)
					}
				}
			}
		}
	}
}

// P8.3
func TestTable(t *testing.T) {
	for _, x := range []struct {
		name   string
		m      api.Machine
		want   []Pair
		height int
	}{
		{"example", example(), []Pair{{0, 1, []int{0, 0}, true}, {0, 2, []int{0}, true}, {1, 2, []int{0}, true}}, 2},
		{"one state", samples.Machine(1, 1, []api.Edge{{}}), nil, 0},
		{"one state without edges", samples.Machine(2, 2, []api.Edge{none, none}), nil, 0},
		{"two equivalent states", samples.Machine(1, 1, []api.Edge{{To: 1}}, []api.Edge{{To: 0}}), []Pair{{0, 1, nil, false}}, 0},
		{"the toggle", samples.Machine(1, 2, []api.Edge{{To: 1, Out: 0}}, []api.Edge{{To: 0, Out: 1}}), []Pair{{0, 1, []int{0}, true}}, 1},
		{"some equivalent states", samples.Machine(2, 2, []api.Edge{{To: 0}, {To: 3}}, []api.Edge{{To: 0}, {To: 2}}, []api.Edge{{To: 2, Out: 1}, {To: 0}}, []api.Edge{{To: 2, Out: 1}, {To: 1}}), []Pair{
			{0, 1, nil, false}, {0, 2, []int{0}, true}, {0, 3, []int{0}, true}, {1, 2, []int{0}, true}, {1, 3, []int{0}, true}, {2, 3, nil, false}}, 1},
		{"chain", samples.Chain(4), []Pair{
			{0, 1, zeros(3), true}, {0, 2, zeros(2), true}, {0, 3, zeros(1), true}, {1, 2, zeros(2), true}, {1, 3, zeros(1), true}, {2, 3, zeros(1), true}}, 3},
	} {
		got, e := Table(x.m)
		if !slices.EqualFunc(got, x.want, samePair) || e != api.OK || cap(got) != len(got) {
			t.Errorf("%s: %v, error %d, capacity %d; want %v", x.name, got, e, cap(got), x.want)
		}
		if height, e := Height(x.m); height != x.height || e != api.OK {
			t.Errorf("%s: height %d, error %d; want %d", x.name, height, e, x.height)
		}
	}
}

// P8.3
func TestHeight(t *testing.T) {
	for _, x := range []struct {
		name string
		m    api.Machine
		want int
	}{
		{"forks: 3 and 4 by 2 1 0 2", forks(), 4},
		{"two states, told apart as soon as possible", samples.Chain(2), 1},
		{"chain of 63", samples.Chain(63), 62},
		{"chain: as late as possible", samples.Chain(64), 63},
		{"ring", samples.Ring(64), 1},
		{"ring of 63", samples.Ring(63), 48},
		{"ring of 15", samples.Ring(15), 1},
		{"largest", samples.Largest(), 0},
		{"largest, an edge less", samples.LargestBut(none), 5},
		{"nothing defined", samples.Machine(1, 1, []api.Edge{none}, []api.Edge{none}), 0},
		{"only among states that are not reached", samples.Machine(1, 2, []api.Edge{{To: 0}}, []api.Edge{{To: 2}}, []api.Edge{{To: 3}}, []api.Edge{{To: 3, Out: 1}}), 3},
	} {
		if got, e := Height(x.m); got != x.want || e != api.OK {
			t.Errorf("%s: %d, error %d; want %d", x.name, got, e, x.want)
		}
	}
}

// checkTable holds the table and the height of a machine against the separating words by another function.
func checkTable(t *testing.T, m api.Machine, separating func(m api.Machine, s, t int) ([]int, bool)) {
	t.Helper()
	want := tableOf(m, separating)
	got, e := Table(m)
	if !slices.EqualFunc(got, want, samePair) || e != api.OK || cap(got) != len(got) {
		t.Errorf("Table(%v) = %v, error %d, capacity %d; want %v", m, got, e, cap(got), want)
	}
	longest := 0
	for _, p := range want {
		longest = max(longest, len(p.Word))
	}
	if height, e := Height(m); height != longest || e != api.OK {
		t.Errorf("Height(%v) = %d, error %d; want %d", m, height, e, longest)
	}
}

// P8.3
func TestTableFollowsTheDefinition(t *testing.T) {
	for _, m := range append(samples.Small(), example(), forks()) {
		checkTable(t, m, wordOf)
	}
	for _, m := range large() {
		checkTable(t, m, searched)
	}
}

// P8.4
func TestAfter(t *testing.T) {
	for _, x := range []struct {
		name string
		m    api.Machine
		w    []int
		want []int
	}{
		{"example", example(), []int{0}, []int{0, 0, 1}},
		{"example, two symbols", example(), []int{0, 0}, []int{0, 1, 2}},
		{"example, the other input", example(), []int{1}, []int{0, 0, 0}},
		{"nil", example(), nil, []int{0, 0, 0}},
		{"empty", example(), []int{}, []int{0, 0, 0}},
		{"one state", samples.Machine(1, 1, []api.Edge{none}), zeros(256), []int{0}},
		{"none is an output of its own", samples.Machine(1, 2, []api.Edge{none}, []api.Edge{{To: 0, Out: 0}}, []api.Edge{none}, []api.Edge{{To: 0, Out: 1}}), zeros(1), []int{0, 1, 0, 2}},
		{"the last outputs are the same again", samples.Machine(1, 2, []api.Edge{{To: 0}}, []api.Edge{{To: 0, Out: 1}}, []api.Edge{{To: 0}}), zeros(5), []int{0, 1, 0}},
		{"blocks in the order of their least states", samples.Machine(1, 3, []api.Edge{{Out: 2}}, []api.Edge{{Out: 0}}, []api.Edge{{Out: 2}}, []api.Edge{{Out: 1}}), zeros(1), []int{0, 1, 0, 2}},
		{"chain", samples.Chain(5), zeros(2), []int{0, 0, 0, 1, 2}},
		{"chain, as late as possible", samples.Chain(64), zeros(63), upTo(64)},
		{"chain, the longest word", samples.Chain(64), zeros(256), upTo(64)},
		{"chain, too short", samples.Chain(64), zeros(62), append([]int{0}, upTo(63)...)},
		{"largest, the longest word", samples.Largest(), slices.Repeat([]int{15}, 256), zeros(64)},
		{"largest, an edge less", samples.LargestBut(none), []int{15}, append(zeros(63), 1)},
	} {
		got, e := After(x.m, x.w)
		if !slices.Equal(got, x.want) || e != api.OK || cap(got) != len(got) {
			t.Errorf("%s: %v, error %d, capacity %d; want %v", x.name, got, e, cap(got), x.want)
		}
	}
}

// P8.4
func TestAfterRefusesListsThatAreNoWords(t *testing.T) {
	for _, x := range notWords() {
		for _, m := range []api.Machine{example(), samples.Machine(2, 1, []api.Edge{none, none})} {
			if p, e := After(m, x.w); len(p) != 0 || e != x.want {
				t.Errorf("%d symbols: %v, error %d; want error %d", len(x.w), p, e, x.want)
			}
		}
	}
}

// P8.1, P8.2, P8.3, P8.4
func TestTheMachineIsCheckedFirst(t *testing.T) {
	for _, x := range samples.Invalid() {
		if table, e := Table(x.M); len(table) != 0 || e != x.Want {
			t.Errorf("Table, %s: %v, error %d; want error %d", x.Name, table, e, x.Want)
		}
		if height, e := Height(x.M); height != 0 || e != x.Want {
			t.Errorf("Height, %s: %d, error %d; want error %d", x.Name, height, e, x.Want)
		}
		for _, n := range []int{0, 1, -1, 64, math.MinInt, math.MaxInt} {
			if w, apart, e := Separate(x.M, n, n); len(w) != 0 || apart || e != x.Want {
				t.Errorf("Separate, %s: %v, %v, error %d; want error %d", x.Name, w, apart, e, x.Want)
			}
			for _, w := range [][]int{nil, {0}, {n}, zeros(257)} {
				if is, e := Separates(x.M, w, n, n); is || e != x.Want {
					t.Errorf("Separates, %s: %v, error %d; want error %d", x.Name, is, e, x.Want)
				}
				if p, e := After(x.M, w); len(p) != 0 || e != x.Want {
					t.Errorf("After, %s: %v, error %d; want error %d", x.Name, p, e, x.Want)
				}
			}
		}
	}
}

// P8.5
func TestBehindTheFirstSymbol(t *testing.T) {
	for _, m := range append(append(samples.Small(), example()), large()...) {
		table, e := Table(m)
		if e != api.OK {
			t.Fatalf("Table(%v): error %d", m, e)
		}
		words := map[[2]int][]int{}
		for _, p := range table {
			words[[2]int{p.S, p.T}], words[[2]int{p.T, p.S}] = p.Word, p.Word
		}
		for _, p := range table {
			if len(p.Word) < 2 {
				continue
			}
			s, _ := machines.After(m, p.S, p.Word[:1])
			u, _ := machines.After(m, p.T, p.Word[:1])
			if got := words[[2]int{s, u}]; !slices.Equal(got, p.Word[1:]) {
				t.Errorf("%v: %v, but %d and %d have %v", m, p, s, u, got)
			}
		}
	}
}

// P8.5
func TestThereIsAWordOfEachLength(t *testing.T) {
	for _, m := range append(append(samples.Small(), example()), large()...) {
		table, e := Table(m)
		height, f := Height(m)
		if e != api.OK || f != api.OK || height >= len(m.Rows) {
			t.Fatalf("%v: height %d, errors %d, %d", m, height, e, f)
		}
		lengths := map[int]bool{}
		for _, p := range table {
			if p.Apart {
				lengths[len(p.Word)] = true
			}
		}
		for length := range height {
			if !lengths[length+1] {
				t.Errorf("%v: no separating word of the length %d, but the height is %d", m, length+1, height)
			}
		}
		if len(lengths) != height {
			t.Errorf("%v: separating words of %d lengths, but the height is %d", m, len(lengths), height)
		}
	}
}

// P8.5
func TestAThirdStateIsSeparatedFromOneOfBoth(t *testing.T) {
	for _, m := range append(samples.Small(), example(), forks(), samples.Scattered(6, 2, 1)) {
		for w := range words.All(m.Inputs, 2) {
			separates := func(s, t int) bool {
				is, e := Separates(m, w, s, t)
				return is && e == api.OK
			}
			for s := range m.Rows {
				for u := range m.Rows {
					for third := range m.Rows {
						if separates(s, u) && !separates(third, s) && !separates(third, u) {
							t.Errorf("%v, %v: separates %d and %d, but %d from none of both", m, w, s, u, third)
						}
					}
				}
			}
		}
	}
}

// P8.5
func TestMoreSymbolsSeparateMore(t *testing.T) {
	for _, m := range append(append(samples.Small(), example()), large()...) {
		long := zeros(12)
		for n := range long {
			long[n] = n * n % m.Inputs
		}
		last := zeros(len(m.Rows))
		for n := range long {
			p, e := After(m, long[:n+1])
			finer, f := classes.Finer(p, last)
			if !finer || e != api.OK || f != api.OK {
				t.Errorf("%v: %v after %v, %v with a symbol less, errors %d, %d", m, p, long[:n+1], last, e, f)
			}
			last = p
		}
	}
}

// Rules R1 and R4: arguments stay as they are, and results share memory neither with them nor with each other.
func TestArgumentsAreNeitherChangedNorShared(t *testing.T) {
	row := append(make([]api.Edge, 0, 8), api.Edge{To: 1}, none)
	m := samples.Machine(2, 1, append(make([][]api.Edge, 0, 8), row, []api.Edge{none, {}}, row)...)
	w := append(make([]int, 0, 8), 0, 1)
	before := samples.Clone(m)
	want := []Pair{{0, 1, []int{0}, true}, {0, 2, nil, false}, {1, 2, []int{0}, true}}
	for range 2 {
		word, _, _ := Separate(m, 0, 1)
		table, _ := Table(m)
		p, _ := After(m, w)
		height, _ := Height(m)
		is, _ := Separates(m, w, 0, 1)
		if !slices.Equal(word, []int{0}) || !slices.EqualFunc(table, want, samePair) || !slices.Equal(p, []int{0, 1, 0}) || height != 1 || !is {
			t.Fatalf("%v, %v, %v, %v, %v", word, table, p, height, is)
		}
		for _, pair := range table {
			if cap(pair.Word) != len(pair.Word) {
				t.Errorf("%v: capacity %d", pair, cap(pair.Word))
			}
		}
		// What is written into a result changes no argument, no other part of it, and no later result.
		word[0], p[1], table[0].Word[0] = 98, 98, 99
		if table[2].Word[0] != 0 {
			t.Errorf("words share memory: %v", table)
		}
	}
	if !machines.Same(m, before) || row[:3][2] != (api.Edge{}) || m.Rows[:4][3] != nil || !slices.Equal(w[:8], []int{0, 1, 0, 0, 0, 0, 0, 0}) {
		t.Errorf("changed: %v, %v", m, w)
	}
}
