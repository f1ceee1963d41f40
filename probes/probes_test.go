package probes_test

import (
	"fmt"
	"math"
	"slices"
	"testing"

	"gauntlet/api"
	"gauntlet/machines"
	"gauntlet/probes"
	"gauntlet/quotients"
	"gauntlet/samples"
	"gauntlet/samples/lists"
	"gauntlet/samples/propers"
	"gauntlet/words"
)

// stay returns an edge back to a state.
func stay(s, out int) api.Edge { return api.Edge{To: s, Out: out} }

// lost returns a machine without a height: 0 and 1 meet by the input 0, 1 and 2 by the input 1.
func lost() api.Machine {
	return samples.Machine(2, 2,
		[]api.Edge{{To: 1}, {To: 2}},
		[]api.Edge{{To: 1}, {To: 2, Out: 1}},
		[]api.Edge{{To: 1, Out: 1}, {To: 2, Out: 1}})
}

// meeting returns a machine in which the word that singles out 0 leads 1 and 2 to the same state, before it separates 0 from both. From there they are never told apart.
func meeting() api.Machine {
	return samples.Machine(2, 2,
		[]api.Edge{{To: 1}, {To: 0}},
		[]api.Edge{{To: 2}, {To: 0, Out: 1}},
		[]api.Edge{{To: 2}, {To: 0}})
}

// forked returns a machine with a tree, but without a preset word: the input 0 tells 0 and 1 from 2 and 3, then it must be 1 for the former, by which the latter meet, or 2 for the latter, by which the former meet.
func forked() api.Machine {
	return samples.Machine(3, 2,
		[]api.Edge{stay(0, 0), {To: 1}, {To: 3}},
		[]api.Edge{stay(1, 0), {To: 2, Out: 1}, {To: 3}},
		[]api.Edge{stay(2, 1), {To: 0}, {To: 0}},
		[]api.Edge{stay(3, 1), {To: 0}, {To: 0, Out: 1}})
}

// hidden returns a machine in which a word of 21 symbols is needed to single out a state.
func hidden() api.Machine {
	return samples.Machine(3, 2,
		[]api.Edge{{To: 0}, {To: 2}, {To: 0}},
		[]api.Edge{{To: 5}, {To: 2}, {To: 1}},
		[]api.Edge{{To: 1}, {To: 2}, {To: 2}},
		[]api.Edge{{To: 2}, {To: 1, Out: 1}, {To: 2}},
		[]api.Edge{{To: 3}, {To: 2}, {To: 4}},
		[]api.Edge{{To: 4}, {To: 2}, {To: 5}})
}

// winding returns a machine whose shortest preset word has 15 symbols.
func winding() api.Machine {
	return samples.Machine(3, 2,
		[]api.Edge{{To: 3}, {To: 3}, {To: 5}},
		[]api.Edge{{To: 2}, {To: 2}, {To: 1}},
		[]api.Edge{{To: 1}, {To: 4}, {To: 1}},
		[]api.Edge{{To: 5}, {To: 5}, {To: 1}},
		[]api.Edge{{To: 0, Out: 1}, {To: 5}, {To: 0}},
		[]api.Edge{{To: 0}, {To: 0}, {To: 0}})
}

// named returns machines that the tests know something about.
func named() []api.Machine {
	return []api.Machine{propers.Example(), lost(), meeting(), forked(), hidden(), winding(), propers.Resting(1), propers.Resting(16), propers.Late(2), propers.Late(6), propers.Slow(6), propers.Doors(5), samples.Ring(6)}
}

// few returns machines with at most six states, with and without trees, and words of many lengths.
func few() []api.Machine {
	some := named()
	for seed := range 240 {
		states, inputs, outputs := 4+seed%3, 1+seed%7*seed%5, 2+seed%3
		if seed%40 == 0 {
			inputs = 16
		}
		some = append(some, propers.Shuffled(states, inputs, outputs, 1+seed*7%20, seed), propers.Scattered(states, inputs, outputs, 1+seed*7%20, seed))
	}
	return some
}

// tooLarge returns proper machines with more states than there may be.
func tooLarge() []api.Machine {
	return append(propers.Large(), propers.Late(7), propers.Doors(6), propers.Slow(8), samples.Ring(7))
}

// responses returns by the definition the responses of all states to a word.
func responses(m api.Machine, w []int) [][]int {
	all := make([][]int, len(m.Rows))
	for s := range m.Rows {
		now := s
		for _, i := range w {
			all[s] = append(all[s], m.Rows[now][i].Out)
			now = m.Rows[now][i].To
		}
	}
	return all
}

// singles reports by the definition whether a word singles out a state.
func singles(m api.Machine, w []int, s int) bool {
	all := responses(m, w)
	for t := range m.Rows {
		if t != s && slices.Equal(all[s], all[t]) {
			return false
		}
	}
	return true
}

// isPreset reports by the definition whether a word separates each two different states.
func isPreset(m api.Machine, w []int) bool {
	for s := range m.Rows {
		if !singles(m, w, s) {
			return false
		}
	}
	return true
}

// first returns the first word, of at most most symbols, for which a function holds; false if there is none.
func first(inputs, most int, holds func(w []int) bool) ([]int, bool) {
	for w := range words.All(inputs, most) {
		if holds(w) {
			return w, true
		}
	}
	return nil, false
}

// forgotten stands for where the machine is, and for what is like a state, if it does not matter any more.
const forgotten = -1

// situation is what a word tells of a machine, for each state: where the machine is after it, and the least state with the same response.
type situation struct{ now, alike [probes.MaxProbe]int }

// start returns the situation after the empty word.
func start(m api.Machine) situation {
	x := situation{}
	for s := range x.now {
		x.now[s] = s
		if s >= len(m.Rows) {
			x.now[s], x.alike[s] = forgotten, forgotten
		}
	}
	return x
}

// after returns the situation after another input.
func (x situation) after(m api.Machine, i int) situation {
	met := map[[2]int]int{}
	for s, now := range x.now {
		if now == forgotten {
			continue
		}
		edge := m.Rows[now][i]
		response := [2]int{x.alike[s], edge.Out}
		if _, known := met[response]; !known {
			met[response] = s
		}
		x.now[s], x.alike[s] = edge.To, met[response]
	}
	return x
}

// forget returns the situation without the states that do not matter.
func (x situation) forget(matters func(x situation, s int) bool) situation {
	y := x
	for s := range x.now {
		if !matters(x, s) {
			y.now[s], y.alike[s] = forgotten, forgotten
		}
	}
	return y
}

// alone reports whether no other state has the response of a state.
func (x situation) alone(s int) bool {
	for t, alike := range x.alike {
		if t != s && alike == x.alike[s] {
			return false
		}
	}
	return true
}

// left returns how many states matter.
func (x situation) left() int {
	count := 0
	for _, now := range x.now {
		if now != forgotten {
			count++
		}
	}
	return count
}

// least is the first word of all for something, if there is one.
type least struct {
	word  []int
	there bool
}

// search returns the first word of all after which at most so many states matter. After words with the same situation, words do the same: only the first one of these is gone on with.
func search(m api.Machine, most int, matters func(x situation, s int) bool) least {
	begin := start(m).forget(matters)
	met := map[situation]bool{begin: true}
	type step struct {
		at   situation
		word []int
	}
	for queue := []step{{begin, nil}}; len(queue) > 0; queue = queue[1:] {
		at, w := queue[0].at, queue[0].word
		if at.left() <= most {
			return least{w, true}
		}
		for i := range m.Inputs {
			if next := at.after(m, i).forget(matters); !met[next] {
				met[next] = true
				queue = append(queue, step{next, append(slices.Clip(w), i)})
			}
		}
	}
	return least{}
}

// leastWords returns by the definition the least words that single out the states of a machine, and the least one that is preset.
func leastWords(m api.Machine) (uios []least, preset least) {
	for s := range m.Rows {
		uios = append(uios, search(m, 1, func(x situation, t int) bool { return x.alike[t] == x.alike[s] }))
	}
	return uios, search(m, 0, func(x situation, s int) bool { return !x.alone(s) })
}

// wantWord holds what was returned against a word.
func wantWord(t *testing.T, name string, got []int, e api.Errno, want []int) {
	t.Helper()
	if e != api.OK || !slices.Equal(got, want) || cap(got) != len(got) {
		t.Errorf("%s: %v, error %d; want %v", name, got, e, want)
	}
}

// wantNoWord holds what was returned against an error.
func wantNoWord(t *testing.T, name string, got []int, e, want api.Errno) {
	t.Helper()
	if e != want || got != nil {
		t.Errorf("%s: %v, error %d; want error %d", name, got, e, want)
	}
}

// wantLeast holds a search against the least word of all, with as many symbols as it has, one less, and many.
func wantLeast(t *testing.T, name string, search func(most int) ([]int, api.Errno), want least) {
	t.Helper()
	if !want.there {
		for _, most := range []int{0, 1, 2, 7, 256} {
			got, e := search(most)
			wantNoWord(t, fmt.Sprint(name, " with ", most), got, e, api.ErrNone)
		}
		return
	}
	n := len(want.word)
	for _, most := range []int{n, n + 1, 255, 256} {
		got, e := search(most)
		wantWord(t, fmt.Sprint(name, " with ", most), got, e, want.word)
	}
	for most := n - 1; most >= 0; most -= 1 + n/3 {
		got, e := search(most)
		wantNoWord(t, fmt.Sprint(name, " with ", most), got, e, api.ErrNone)
	}
}

// wantLeastWords holds all words of a machine against the least ones.
func wantLeastWords(t *testing.T, m api.Machine, uios []least, preset least) {
	t.Helper()
	for s := range m.Rows {
		wantLeast(t, fmt.Sprint("Uio of ", s, " of ", m), func(most int) ([]int, api.Errno) { return probes.Uio(m, s, most) }, uios[s])
	}
	wantLeast(t, fmt.Sprint("Preset of ", m), func(most int) ([]int, api.Errno) { return probes.Preset(m, most) }, preset)
}

// P15.1
func TestUio(t *testing.T) {
	for _, x := range []struct {
		name string
		m    api.Machine
		s    int
		most int
		want string
	}{
		{"example", propers.Example(), 2, 3, "0"},
		{"example, as many symbols as it needs", propers.Example(), 2, 1, "0"},
		{"example, the other input", propers.Example(), 1, 3, "1"},
		{"example, two symbols", propers.Example(), 0, 3, "0 0"},
		{"example, as many symbols as there may be", propers.Example(), 0, 256, "0 0"},
		{"one state", propers.Resting(1), 0, 0, "-"},
		{"one state, any symbols", propers.Resting(16), 0, 256, "-"},
		{"two states", propers.Late(2), 0, 1, "0"},
		{"six states, the first one", propers.Late(6), 0, 256, "0 0 0 0 0"},
		{"six states, the fifth one", propers.Late(6), 4, 256, "0 0"},
		{"six states, the last one", propers.Late(6), 5, 1, "0"},
		{"the last input", propers.Doors(5), 5, 256, "4"},
		{"all other states meet", meeting(), 0, 256, "0 1"},
		{"a state in which others meet", meeting(), 1, 256, "1"},
		{"no tree", lost(), 0, 256, "1"},
		{"no tree, the other state", lost(), 2, 256, "0"},
		{"no preset word", forked(), 3, 256, "2"},
		{"ring", samples.Ring(6), 4, 256, "0"},
	} {
		got, e := probes.Uio(x.m, x.s, x.most)
		wantWord(t, fmt.Sprint(x.name, ", ", x.s), got, e, lists.Of(x.want)[0])
	}
	for _, x := range []struct {
		name string
		m    api.Machine
		s    int
		most int
	}{
		{"example, too few symbols", propers.Example(), 0, 1},
		{"example, no symbols", propers.Example(), 2, 0},
		{"two states, no symbols", propers.Late(2), 1, 0},
		{"six states, a symbol too few", propers.Late(6), 0, 4},
		{"met by all others", meeting(), 2, 256},
		{"no word", lost(), 1, 256},
	} {
		got, e := probes.Uio(x.m, x.s, x.most)
		wantNoWord(t, fmt.Sprint(x.name, ", ", x.s), got, e, api.ErrNone)
	}
}

// P15.2
func TestPreset(t *testing.T) {
	for _, x := range []struct {
		name string
		m    api.Machine
		most int
		want string
	}{
		{"example", propers.Example(), 3, "0 0"},
		{"example, as many symbols as it needs", propers.Example(), 2, "0 0"},
		{"example, as many symbols as there may be", propers.Example(), 256, "0 0"},
		{"one state", propers.Resting(1), 0, "-"},
		{"one state, any symbols", propers.Resting(16), 256, "-"},
		{"two states", propers.Late(2), 1, "0"},
		{"six states", propers.Late(6), 5, "0 0 0 0 0"},
		{"ring", samples.Ring(6), 256, "0"},
	} {
		got, e := probes.Preset(x.m, x.most)
		wantWord(t, x.name, got, e, lists.Of(x.want)[0])
	}
	for _, x := range []struct {
		name string
		m    api.Machine
		most int
	}{
		{"example, too few symbols", propers.Example(), 1},
		{"example, no symbols", propers.Example(), 0},
		{"two states, no symbols", propers.Late(2), 0},
		{"six states, a symbol too few", propers.Late(6), 4},
		{"no tree", lost(), 256},
		{"all words that single out a state let others meet", meeting(), 256},
		{"a tree, but no word", forked(), 256},
		{"all inputs let states meet", propers.Doors(5), 256},
	} {
		got, e := probes.Preset(x.m, x.most)
		wantNoWord(t, x.name, got, e, api.ErrNone)
	}
}

// wantTried holds what was returned for a greatest number of symbols against the first of all words up to it for which a function holds.
func wantTried(t *testing.T, name string, m api.Machine, most int, got []int, e api.Errno, holds func(w []int) bool) {
	t.Helper()
	if want, there := first(m.Inputs, most, holds); there {
		wantWord(t, name, got, e, want)
	} else {
		wantNoWord(t, name, got, e, api.ErrNone)
	}
}

// P15.1, P15.2
func TestWordsByTrying(t *testing.T) {
	for n, m := range slices.Concat(few(), propers.Threes(), propers.Small()) {
		most := n % 6
		if m.Inputs > 3 {
			most = n % 3
		}
		for s := range m.Rows {
			got, e := probes.Uio(m, s, most)
			wantTried(t, fmt.Sprint("Uio of ", s, " of ", m), m, most, got, e, func(w []int) bool { return singles(m, w, s) })
		}
		got, e := probes.Preset(m, most)
		wantTried(t, fmt.Sprint("Preset of ", m), m, most, got, e, func(w []int) bool { return isPreset(m, w) })
	}
}

// P15.1, P15.2
func TestWordsBySituations(t *testing.T) {
	var lengths [2][]int
	without := [2]int{}
	count := func(n int, x least) {
		if !x.there {
			without[n]++
			return
		}
		lengths[n] = append(lengths[n], len(x.word))
	}
	for _, m := range few() {
		uios, preset := leastWords(m)
		wantLeastWords(t, m, uios, preset)
		for _, x := range uios {
			count(0, x)
		}
		count(1, preset)
	}
	// The machines must not be too simple.
	if slices.Max(lengths[0]) < 21 || slices.Max(lengths[1]) < 15 || min(without[0], without[1]) < 30 {
		t.Errorf("words of %d and %d symbols; %d states and %d machines without one", slices.Max(lengths[0]), slices.Max(lengths[1]), without[0], without[1])
	}
}

// P15.1, P15.2
func TestWordsOfAllMachinesWithThreeStates(t *testing.T) {
	for _, m := range propers.Threes() {
		uios, preset := leastWords(m)
		wantLeastWords(t, m, uios, preset)
	}
}

// numbers are no numbers of states, inputs or symbols.
var numbers = []int{-1, -2, 257, 258, 1 << 32, math.MinInt, math.MaxInt}

// P15.1, P15.2
func TestArgumentsAreRefused(t *testing.T) {
	for _, m := range named() {
		for _, most := range numbers {
			for s := range m.Rows {
				got, e := probes.Uio(m, s, most)
				wantNoWord(t, fmt.Sprint("Uio of ", s, " with ", most), got, e, api.ErrArg)
			}
			got, e := probes.Preset(m, most)
			wantNoWord(t, fmt.Sprint("Preset with ", most), got, e, api.ErrArg)
		}
		for _, s := range append(numbers, len(m.Rows), 6, 7, 8, 64) {
			for _, most := range append(numbers, 0, 1, 256) {
				got, e := probes.Uio(m, s, most)
				wantNoWord(t, fmt.Sprint("Uio of ", s, " with ", most), got, e, api.ErrArg)
			}
		}
	}
}

// wantNothing fails unless all functions that are given a machine return an error.
func wantNothing(t *testing.T, name string, m api.Machine, want api.Errno) {
	t.Helper()
	for _, most := range append(numbers, 0, 1, 256) {
		for _, s := range append(numbers, 0, 1, 63, 64) {
			got, e := probes.Uio(m, s, most)
			wantNoWord(t, fmt.Sprint(name, ": Uio of ", s, " with ", most), got, e, want)
		}
		got, e := probes.Preset(m, most)
		wantNoWord(t, fmt.Sprint(name, ": Preset with ", most), got, e, want)
	}
	if x, e := probes.Build(m); x.Nodes != nil || e != want {
		t.Errorf("%s: Build: %d nodes, error %d; want error %d", name, len(x.Nodes), e, want)
	}
	for _, text := range []string{"", "leaf 0", "leaf 1", "0 (-, -)", "0 (7, 1)", "leaf 0; leaf 0"} {
		if e := probes.Check(m, tree(2, text)); e != want {
			t.Errorf("%s: Check of %q: error %d; want error %d", name, text, e, want)
		}
	}
}

// P15.1, P15.2, P15.3, P15.4
func TestMachinesAreRefused(t *testing.T) {
	for _, x := range propers.Improper() {
		wantNothing(t, x.Name, x.M, x.Want)
	}
	if probes.MaxProbe != 6 {
		t.Errorf("MaxProbe is %d", probes.MaxProbe)
	}
	for _, m := range tooLarge() {
		if e := quotients.Proper(m); e != api.OK {
			t.Errorf("%d states: not proper, error %d", len(m.Rows), e)
		}
		wantNothing(t, fmt.Sprint(len(m.Rows), " states"), m, api.ErrLimit)
	}
}

// Rules R1 and R4: arguments stay as they are, and results share memory neither with them nor with each other.
func TestWordsAreNotShared(t *testing.T) {
	for _, m := range named() {
		before := samples.Clone(m)
		for _, search := range []func() ([]int, api.Errno){
			func() ([]int, api.Errno) { return probes.Uio(m, 0, 256) },
			func() ([]int, api.Errno) { return probes.Preset(m, 256) },
		} {
			got, e := search()
			want := slices.Clone(got)
			for n := range got {
				got[n] = 50
			}
			if again, f := search(); f != e || !slices.Equal(again, want) {
				t.Errorf("%v again: %v, error %d", want, again, f)
			}
		}
		if !machines.Same(m, before) {
			t.Errorf("changed: %v, was %v", m, before)
		}
	}
}
