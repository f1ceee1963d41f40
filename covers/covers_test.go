package covers_test

import (
	"math"
	"slices"
	"strconv"
	"testing"

	"gauntlet/api"
	"gauntlet/covers"
	"gauntlet/machines"
	"gauntlet/samples"
	"gauntlet/samples/lists"
	"gauntlet/tries"
	"gauntlet/words"
)

// none is the undefined edge.
var none = api.Edge{To: api.None, Out: api.None}

// example returns the machine of the chapter's examples.
func example() api.Machine {
	return samples.Machine(2, 2,
		[]api.Edge{{To: 1, Out: 0}, {To: 0, Out: 1}},
		[]api.Edge{{To: 2, Out: 1}, none},
		[]api.Edge{{To: 0, Out: 0}, {To: 2, Out: 1}})
}

// knot returns a machine with the access words: empty; 1 0; 0 1; 0; 1. To 2 also 1 1 leads, which is later, and to 1 also 0 1 0, which is longer.
func knot() api.Machine {
	return samples.Machine(2, 2,
		[]api.Edge{{To: 3, Out: 1}, {To: 4, Out: 0}},
		[]api.Edge{{To: 1, Out: 1}, none},
		[]api.Edge{{To: 1, Out: 0}, {To: 0, Out: 0}},
		[]api.Edge{{To: 3, Out: 0}, {To: 2, Out: 1}},
		[]api.Edge{{To: 1, Out: 1}, {To: 2, Out: 1}})
}

// lonely returns a machine whose state 1 is not reached, although all its edges are defined.
func lonely() api.Machine {
	return samples.Machine(2, 1, []api.Edge{{To: 2}, {To: 0}}, []api.Edge{{To: 0}, {To: 2}}, []api.Edge{{To: 2}, {To: 0}})
}

// resting returns a machine with one state that it never leaves.
func resting(inputs int) api.Machine {
	return samples.Machine(inputs, 1, make([]api.Edge, inputs))
}

// line returns a machine with two inputs that goes to the next state with 0, and stays where it is with 1.
func line(states int) api.Machine {
	m := samples.Machine(2, 1)
	for s := range states {
		m.Rows = append(m.Rows, []api.Edge{{To: min(s+1, states-1)}, {To: s}})
	}
	return m
}

// machinesOfSomeSize returns machines that are too large for all words to be tried, connected or not.
func machinesOfSomeSize() []api.Machine {
	some := append(samples.Large(), example(), knot(), lonely(), line(64), resting(16), samples.Copied(knot(), 3), samples.Copied(example(), 20))
	for seed := range 40 {
		some = append(some, samples.Scattered(2+seed*5%63, 1+seed%16, seed))
	}
	return some
}

// after returns the state after a word, from the initial state on.
func after(m api.Machine, w []int) int {
	s, e := machines.After(m, 0, w)
	if e != api.OK {
		panic("a machine or a word is not valid")
	}
	return s
}

// accessOf returns by the definition the words of Q, and false if there is a state without one.
func accessOf(m api.Machine) ([][]int, bool) {
	var q [][]int
	var found [api.MaxStates]bool
	// A prefix of an access word is one, too: only these are made longer.
	for behind := [][]int{{}}; len(behind) > 0; {
		var next [][]int
		for _, w := range behind {
			if s := after(m, w); s != api.None && !found[s] {
				found[s] = true
				q = append(q, w)
				next = append(next, w)
			}
		}
		behind = lists.Products(next, letters(m))
	}
	return lists.Sorted(q), len(q) == len(m.Rows)
}

// letters returns the words of one symbol.
func letters(m api.Machine) [][]int {
	return lists.First(m.Inputs, m.Inputs, 1)
}

// switchesOf returns by the definition the words of a list, followed by at most so many inputs.
func switchesOf(m api.Machine, q [][]int, k int) [][]int {
	all, last := q, q
	for range k {
		last = lists.Products(last, letters(m))
		all = slices.Concat(all, last)
	}
	return lists.Sorted(all)
}

// coverOf returns by the definition what a list visits and takes.
func coverOf(m api.Machine, l [][]int) covers.Cover {
	c := covers.Cover{States: make([]bool, len(m.Rows))}
	for range m.Rows {
		c.Edges = append(c.Edges, make([]bool, m.Inputs))
	}
	for _, u := range lists.Prefixes(l) {
		if s := after(m, u); s != api.None {
			c.States[s] = true
		}
		if n := len(u) - 1; n >= 0 && after(m, u) != api.None {
			c.Edges[after(m, u[:n])][u[n]] = true
		}
	}
	return c
}

// isStateCover reports by the definition whether a list is a state cover.
func isStateCover(m api.Machine, l [][]int) bool {
	for s := range m.Rows {
		if !slices.ContainsFunc(l, func(w []int) bool { return after(m, w) == s }) {
			return false
		}
	}
	return true
}

// isTransitionCover reports by the definition whether a list is a transition cover.
func isTransitionCover(m api.Machine, l [][]int) bool {
	for s := range m.Rows {
		for i := range m.Inputs {
			if !slices.ContainsFunc(l, func(w []int) bool {
				n := len(w) - 1
				return n >= 0 && w[n] == i && after(m, w[:n]) == s
			}) {
				return false
			}
		}
	}
	return true
}

// bits returns a string that tells a list of truths.
func bits(l []bool) string {
	var b []byte
	for _, x := range l {
		b = strconv.AppendInt(b, int64(map[bool]int{true: 1}[x]), 10)
	}
	return string(b)
}

// code returns a string that tells a cover: the states, and then the edges of each state.
func code(c covers.Cover) string {
	text := bits(c.States)
	for _, row := range c.Edges {
		text += " " + bits(row)
	}
	return text
}

// wantList holds what was returned against a list.
func wantList(t *testing.T, name string, got [][]int, e api.Errno, want [][]int) {
	t.Helper()
	if e != api.OK || !lists.Same(got, want) || !lists.Full(got) {
		t.Errorf("%s: error %d, %d words %s; want %d: %s", name, e, len(got), lists.Brief(got), len(want), lists.Brief(want))
	}
}

// wantRefused holds what was returned against an error.
func wantRefused(t *testing.T, name string, got [][]int, e, want api.Errno) {
	t.Helper()
	if e != want || len(got) != 0 {
		t.Errorf("%s: error %d, %d words %s; want error %d", name, e, len(got), lists.Brief(got), want)
	}
}

// wantCovers holds what a list covers against the definitions.
func wantCovers(t *testing.T, m api.Machine, l [][]int) {
	t.Helper()
	c, e := covers.Covered(m, l)
	if want := coverOf(m, l); e != api.OK || code(c) != code(want) {
		t.Errorf("%v, %s: %s, error %d; want %s", m, lists.Brief(l), code(c), e, code(want))
	}
	if cap(c.States) != len(c.States) || cap(c.Edges) != len(c.Edges) || slices.ContainsFunc(c.Edges, func(row []bool) bool { return cap(row) != len(row) }) {
		t.Errorf("%v, %s: more capacity than length", m, lists.Brief(l))
	}
	if is, e := covers.IsStateCover(m, l); is != isStateCover(m, l) || e != api.OK {
		t.Errorf("%v, %s: state cover: %v, error %d", m, lists.Brief(l), is, e)
	}
	if is, e := covers.IsTransitionCover(m, l); is != isTransitionCover(m, l) || e != api.OK {
		t.Errorf("%v, %s: transition cover: %v, error %d", m, lists.Brief(l), is, e)
	}
}

// wantNoCovers fails unless all functions that are given a list return an error.
func wantNoCovers(t *testing.T, name string, m api.Machine, l [][]int, want api.Errno) {
	t.Helper()
	if c, e := covers.Covered(m, l); e != want || c.States != nil || c.Edges != nil {
		t.Errorf("%s: %s, error %d; want error %d", name, code(c), e, want)
	}
	if is, e := covers.IsStateCover(m, l); is || e != want {
		t.Errorf("%s: state cover: %v, error %d; want error %d", name, is, e, want)
	}
	if is, e := covers.IsTransitionCover(m, l); is || e != want {
		t.Errorf("%s: transition cover: %v, error %d; want error %d", name, is, e, want)
	}
}

// P13.1
func TestStatesAndTransitions(t *testing.T) {
	for _, x := range []struct {
		name string
		m    api.Machine
		q, p string
	}{
		{"example", example(), "-, 0, 0 0", "-, 0, 1, 0 0, 0 1, 0 0 0, 0 0 1"},
		{"not in the order of the states", knot(), "-, 0, 1, 0 1, 1 0", "-, 0, 1, 0 0, 0 1, 1 0, 1 1, 0 1 0, 0 1 1, 1 0 0, 1 0 1"},
		{"one state", resting(1), "-", "-, 0"},
		{"one state, three inputs", resting(3), "-", "-, 0, 1, 2"},
		{"one state, nothing defined", samples.Machine(2, 1, []api.Edge{none, none}), "-", "-, 0, 1"},
		{"symbols of two digits", resting(11), "-", "-, 0, 1, 2, 3, 4, 5, 6, 7, 8, 9, 10"},
		{"ring", samples.Ring(4), "-, 0, 0 0, 0 0 0", "-, 0, 0 0, 0 0 0, 0 0 0 0"},
		{"chain", samples.Chain(3), "-, 0, 0 0", "-, 0, 0 0, 0 0 0"},
		{"the later input alone leads on", samples.Machine(2, 1, []api.Edge{{}, {To: 1}}, []api.Edge{none, none}), "-, 1", "-, 0, 1, 1 0, 1 1"},
	} {
		got, e := covers.States(x.m)
		wantList(t, x.name, got, e, lists.Of(x.q))
		got, e = covers.Transitions(x.m)
		wantList(t, x.name, got, e, lists.Of(x.p))
	}
}

// P13.1
func TestStatesAndTransitionsByTheDefinition(t *testing.T) {
	for _, m := range slices.Concat(samples.Small(), machinesOfSomeSize()) {
		q, connected := accessOf(m)
		if is, _ := machines.Connected(m); is != connected {
			t.Fatalf("%v: connected: %v", m, is)
		}
		got, e := covers.States(m)
		all, f := covers.Transitions(m)
		if !connected {
			wantRefused(t, "not connected", got, e, api.ErrReach)
			wantRefused(t, "not connected", all, f, api.ErrReach)
			continue
		}
		wantList(t, "Q", got, e, q)
		wantList(t, "P", all, f, lists.Sorted(slices.Concat(q, lists.Products(q, letters(m)))))
		for s := range m.Rows {
			if !slices.ContainsFunc(got, func(w []int) bool { return after(m, w) == s }) {
				t.Errorf("%v: no word of Q leads to %d", m, s)
			}
		}
	}
}

// P13.1, P13.2
func TestMachinesAreRefused(t *testing.T) {
	refused := samples.Invalid()
	for _, m := range []api.Machine{lonely(), samples.Machine(1, 1, []api.Edge{none}, []api.Edge{{}}), samples.Machine(2, 1, []api.Edge{{}, none}, []api.Edge{{}, {To: 1}}), samples.Copied(knot(), 8)} {
		if is, _ := machines.Connected(m); is {
			t.Fatalf("connected: %v", m)
		}
		refused = append(refused, samples.Refused{Name: "not connected", M: m, Want: api.ErrReach})
	}
	for _, x := range refused {
		got, e := covers.States(x.M)
		wantRefused(t, "States: "+x.Name, got, e, x.Want)
		got, e = covers.Transitions(x.M)
		wantRefused(t, "Transitions: "+x.Name, got, e, x.Want)
		for _, k := range []int{0, 1, 2, 257, math.MaxInt, -1, math.MinInt} {
			got, e = covers.Switches(x.M, k)
			wantRefused(t, "Switches of "+strconv.Itoa(k)+": "+x.Name, got, e, x.Want)
		}
	}
}

// P13.2
func TestSwitches(t *testing.T) {
	for _, x := range []struct {
		name string
		m    api.Machine
		k    int
		want string
	}{
		{"example", example(), 0, "-, 0, 0 0"},
		{"example", example(), 1, "-, 0, 1, 0 0, 0 1, 0 0 0, 0 0 1"},
		{"example", example(), 2, "-, 0, 1, 0 0, 0 1, 1 0, 1 1, 0 0 0, 0 0 1, 0 1 0, 0 1 1, 0 0 0 0, 0 0 0 1, 0 0 1 0, 0 0 1 1"},
		{"one state", resting(1), 3, "-, 0, 0 0, 0 0 0"},
		{"one state, two inputs", resting(2), 2, "-, 0, 1, 0 0, 0 1, 1 0, 1 1"},
		{"nothing defined", samples.Machine(2, 1, []api.Edge{none, none}), 2, "-, 0, 1, 0 0, 0 1, 1 0, 1 1"},
		{"ring", samples.Ring(2), 2, "-, 0, 0 0, 0 0 0"},
		{"the later input alone leads on", samples.Machine(2, 1, []api.Edge{{}, {To: 1}}, []api.Edge{none, none}), 2, "-, 0, 1, 0 0, 0 1, 1 0, 1 1, 1 0 0, 1 0 1, 1 1 0, 1 1 1"},
	} {
		got, e := covers.Switches(x.m, x.k)
		wantList(t, x.name+", "+strconv.Itoa(x.k), got, e, lists.Of(x.want))
	}
	for _, m := range []api.Machine{example(), resting(1), resting(16), line(64), samples.Largest()} {
		for _, k := range []int{-1, -2, -257, math.MinInt} {
			got, e := covers.Switches(m, k)
			wantRefused(t, strconv.Itoa(k), got, e, api.ErrArg)
		}
		for _, k := range []int{257, 258, 1 << 31, math.MaxInt - 1, math.MaxInt} {
			got, e := covers.Switches(m, k)
			wantRefused(t, strconv.Itoa(k), got, e, api.ErrLimit)
		}
	}
}

// P13.2
func TestSwitchesByTheDefinition(t *testing.T) {
	for n, m := range slices.Concat(samples.Small(), machinesOfSomeSize()) {
		q, connected := accessOf(m)
		if !connected {
			continue
		}
		for k := range 2 + n%3 {
			want := switchesOf(m, q, k)
			got, e := covers.Switches(m, k)
			if tries.Check(want, m.Inputs) == api.OK {
				wantList(t, "Switches of "+strconv.Itoa(k), got, e, want)
			} else {
				wantRefused(t, "Switches of "+strconv.Itoa(k), got, e, api.ErrLimit)
			}
			if len(want)*m.Inputs > 100000 {
				break
			}
		}
	}
}

// P13.2
func TestSwitchesUpToTheLimits(t *testing.T) {
	for _, x := range []struct {
		name string
		m    api.Machine
		most int
	}{
		{"one state, one input: words", resting(1), 256},
		{"one state, two inputs: words", resting(2), 11},
		{"one state, 16 inputs: words", resting(16), 2},
		{"two states, one input: length", samples.Ring(2), 255},
		{"ring: length", samples.Ring(64), 193},
		{"chain: length", samples.Chain(64), 193},
		// With 5 there are 2079 words, of 74655 symbols together; with 4, 1039 words of 36386 symbols.
		{"line: symbols", line(64), 4},
		// With k there are 2^(k+1) - 1 words, and 2^k more for each state but the first one.
		{"line of two states: words", line(2), 10},
		{"line of 32 states: words", line(32), 6},
		{"largest: words", samples.Largest(), 1},
	} {
		q, connected := accessOf(x.m)
		want := switchesOf(x.m, q, x.most)
		if more := switchesOf(x.m, q, x.most+1); !connected || tries.Check(want, x.m.Inputs) != api.OK || tries.Check(more, x.m.Inputs) != api.ErrLimit {
			t.Fatalf("%s: %d is not the most", x.name, x.most)
		}
		got, e := covers.Switches(x.m, x.most)
		wantList(t, x.name, got, e, want)
		for _, more := range []int{1, 2, 3, 60, 300, math.MaxInt - x.most} {
			got, e = covers.Switches(x.m, x.most+more)
			wantRefused(t, x.name+", and more: "+strconv.Itoa(more), got, e, api.ErrLimit)
		}
	}
}

// P13.3
func TestCovered(t *testing.T) {
	for _, x := range []struct {
		name string
		m    api.Machine
		l    string
		want string
	}{
		{"example", example(), "1, 0 1 0", "110 11 00 00"},
		{"no words", example(), "", "000 00 00 00"},
		{"the empty word", example(), "-", "100 00 00 00"},
		{"one symbol", example(), "0", "110 10 00 00"},
		{"an undefined edge last", example(), "0 1", "110 10 00 00"},
		{"nothing behind an undefined edge", example(), "0 1 0 0 1", "110 10 00 00"},
		{"everything", example(), "0 0 0, 0 0 1, 1 0 0 1", "111 11 10 11"},
		{"everything by one word", example(), "1 0 0 1 0", "111 11 10 11"},
		{"the same edge again and again", example(), "1, 1 1, 1 1 1", "100 01 00 00"},
		{"a state without its edges", knot(), "0 1", "10110 10 00 00 01 00"},
		{"the first word covers more than the last one", knot(), "1, 0 0", "10011 11 00 00 10 00"},
		{"a state that is not reached", lonely(), "0 0 1 1", "101 11 00 11"},
		{"one state", resting(2), "1 1", "1 01"},
		{"one state, nothing defined", samples.Machine(2, 1, []api.Edge{none, none}), "0, 1", "1 00"},
		{"three words of one input", samples.Chain(3), "0 0 0 0", "111 1 1 0"},
	} {
		c, e := covers.Covered(x.m, lists.Of(x.l))
		if code(c) != x.want || e != api.OK {
			t.Errorf("%s: %s, error %d; want %s", x.name, code(c), e, x.want)
		}
		wantCovers(t, x.m, lists.Of(x.l))
	}
}

// P13.4
func TestIsCover(t *testing.T) {
	for _, x := range []struct {
		name           string
		m              api.Machine
		l              string
		states, places bool
	}{
		{"example: Q", example(), "-, 0, 0 0", true, false},
		{"example: a word that visits all states", example(), "0 0", false, false},
		{"example: P", example(), "-, 0, 1, 0 0, 0 1, 0 0 0, 0 0 1", true, true},
		{"example: two words", example(), "0, 1", false, false},
		{"no words", example(), "", false, false},
		{"no words for one state", resting(1), "", false, false},
		{"the empty word for one state", resting(1), "-", true, false},
		{"one symbol for one state", resting(1), "0", true, true},
		{"one of two inputs", resting(2), "0", true, false},
		{"both inputs", resting(2), "0, 1", true, true},
		{"both inputs behind others", resting(2), "0 0 1, 1 1 0", true, true},
		{"without the empty word", example(), "0, 1, 0 0, 0 1, 0 0 0, 0 0 1", true, true},
		{"without the word to the undefined edge", example(), "-, 0, 1, 0 0, 0 0 0, 0 0 1", true, false},
		{"without the last word", example(), "-, 0, 1, 0 0, 0 1, 0 0 0", true, false},
		{"with later words to the same edges", example(), "0 0, 0 1, 0 0 0, 0 0 1, 0 0 0 0, 0 0 0 1", true, true},
		{"all edges are taken, but not all by last symbols", example(), "0 0 0, 0 0 1, 1 0 1", false, false},
		{"an undefined edge leads to no state", samples.Chain(2), "0 0", false, false},
		{"transitions, but not the initial state", samples.Chain(2), "0, 0 0", false, true},
		{"nothing defined", samples.Machine(2, 1, []api.Edge{none, none}), "0, 1", false, true},
		{"nothing behind an undefined edge", samples.Machine(2, 1, []api.Edge{none, none}), "-, 0 1, 1 1", true, false},
		{"a state that is not reached", lonely(), "-, 0, 1, 0 0, 0 1, 1 0, 1 1", false, false},
		{"not in the order of the states", knot(), "-, 0, 1, 0 1, 1 0", true, false},
		{"by other words", knot(), "0 1 0, 1 1 1, 1 1 1 0, 1 1 1 1, 0 0 0 1", true, false},
	} {
		l := lists.Of(x.l)
		if is, e := covers.IsStateCover(x.m, lists.Sorted(l)); is != x.states || e != api.OK {
			t.Errorf("%s: state cover: %v, error %d", x.name, is, e)
		}
		if is, e := covers.IsTransitionCover(x.m, lists.Sorted(l)); is != x.places || e != api.OK {
			t.Errorf("%s: transition cover: %v, error %d", x.name, is, e)
		}
	}
}

// P13.3, P13.4
func TestCoversByTheDefinition(t *testing.T) {
	every := [...][][][]int{1: lists.Every(1, 5), 2: lists.Every(2, 2)}
	for n, m := range samples.Small() {
		all := every[m.Inputs]
		for k := n % 11; k < len(all); k += 11 {
			wantCovers(t, m, all[k])
		}
		for seed := range 3 {
			wantCovers(t, m, lists.Scattered(m.Inputs, 12, 6, n+seed*10000))
		}
	}
	for n, m := range machinesOfSomeSize() {
		for _, most := range []int{3, 20, 60, 200} {
			wantCovers(t, m, lists.Scattered(m.Inputs, 10+n, most, n))
		}
		wantCovers(t, m, letters(m))
	}
}

// P13.4
func TestCoversWithoutOneWord(t *testing.T) {
	for _, m := range machinesOfSomeSize() {
		q, connected := accessOf(m)
		p := switchesOf(m, q, 1)
		// The definitions take time with more words than these.
		if !connected || len(p) > 130 {
			continue
		}
		for n := range q {
			wantCovers(t, m, slices.Delete(lists.Copy(q), n, n+1))
		}
		for n := range p {
			wantCovers(t, m, slices.Delete(lists.Copy(p), n, n+1))
		}
	}
}

// P13.3, P13.4
func TestCoversUpToTheLimits(t *testing.T) {
	for _, m := range []api.Machine{samples.Largest(), samples.LargestBut(none), samples.Scattered(64, 16, 1)} {
		for _, l := range [][][]int{lists.First(4096, 16, 3), lists.First(256, 16, 256), lists.First(4096, 16, 16)} {
			wantCovers(t, m, l)
		}
	}
	wantCovers(t, samples.Ring(64), lists.All(1, 256, func([]int) bool { return true }))
	wantCovers(t, samples.Chain(64), [][]int{lists.Repeat(0, 256)})
}

// P13.3, P13.4
func TestListsAreRefused(t *testing.T) {
	for _, x := range lists.Refused() {
		if x.Inputs < 1 || x.Inputs > api.MaxInputs {
			continue
		}
		wantNoCovers(t, x.Name, resting(x.Inputs), x.L, x.Want)
		wantNoCovers(t, x.Name, samples.Scattered(20, x.Inputs, 3), x.L, x.Want)
	}
	for _, x := range []struct {
		name string
		m    api.Machine
		l    [][]int
		want api.Errno
	}{
		{"a symbol that another machine has", example(), lists.Of("2"), api.ErrArg},
		{"behind an undefined edge", example(), lists.Of("0 1 2"), api.ErrArg},
		{"behind words that cover everything", example(), lists.Of("0, 1, 0 0, 0 1, 0 0 0, 0 0 1, 0 0 2"), api.ErrArg},
		{"a machine that is not connected", lonely(), lists.Of("1, 0"), api.ErrArg},
	} {
		wantNoCovers(t, x.name, x.m, x.l, x.want)
	}
	for _, x := range samples.Invalid() {
		for _, l := range [][][]int{nil, lists.Of("-"), lists.Of("0"), lists.Of("1, 0"), {{math.MinInt}}, {lists.Repeat(0, 257)}, make([][]int, 4097)} {
			wantNoCovers(t, x.Name, x.M, l, x.Want)
		}
	}
}

// allDefined reports whether exactly the edges that are defined are taken.
func allDefined(m api.Machine, c covers.Cover) bool {
	for s, row := range m.Rows {
		for i, x := range row {
			if c.Edges[s][i] != (x != none) {
				return false
			}
		}
	}
	return true
}

// P13.5
func TestConsequencesForMachines(t *testing.T) {
	for _, m := range slices.Concat(samples.Small(), machinesOfSomeSize()) {
		q, e := covers.States(m)
		if e == api.ErrReach {
			continue
		}
		p, f := covers.Transitions(m)
		if is, g := covers.IsStateCover(m, q); !is || max(e, f, g) != api.OK {
			t.Errorf("%v: Q is no state cover: errors %d, %d, %d", m, e, f, g)
		}
		if is, g := covers.IsTransitionCover(m, p); !is || g != api.OK {
			t.Errorf("%v: P is no transition cover: error %d", m, g)
		}
		got, e := covers.Switches(m, 0)
		wantList(t, "Switches of 0", got, e, q)
		got, e = covers.Switches(m, 1)
		wantList(t, "Switches of 1", got, e, p)
		if c, e := covers.Covered(m, p); !allDefined(m, c) || slices.Contains(c.States, false) || e != api.OK {
			t.Errorf("%v: P covers %s, error %d", m, code(c), e)
		}
	}
}

// P13.5
func TestConsequencesForLists(t *testing.T) {
	hold := func(m api.Machine, l [][]int) {
		t.Helper()
		c, e := covers.Covered(m, l)
		reduced, f := tries.Reduce(l, m.Inputs)
		less, g := covers.Covered(m, reduced)
		if code(c) != code(less) || max(e, f, g) != api.OK {
			t.Errorf("%v: %s covers %s, reduced %s: errors %d, %d, %d", m, lists.Brief(l), code(c), code(less), e, f, g)
		}
		prefixes, f := tries.Prefixes(l, m.Inputs)
		more, g := covers.Covered(m, prefixes)
		if code(c) != code(more) || max(f, g) != api.OK {
			t.Errorf("%v: %s covers %s, its prefixes %s: errors %d, %d", m, lists.Brief(l), code(c), code(more), f, g)
		}
		if is, e := covers.IsTransitionCover(m, l); is && !allDefined(m, c) || e != api.OK {
			t.Errorf("%v: %s covers all transitions, but takes %s: error %d", m, lists.Brief(l), code(c), e)
		}
	}
	every := [...][][][]int{1: lists.Every(1, 4), 2: lists.Every(2, 2)}
	for n, m := range samples.Small() {
		for k := n % 13; k < len(every[m.Inputs]); k += 13 {
			hold(m, every[m.Inputs][k])
		}
	}
	for n, m := range machinesOfSomeSize() {
		hold(m, lists.Scattered(m.Inputs, 30, 40, n))
		hold(m, lists.Scattered(m.Inputs, 200, 4, n))
	}
}

// Rules R1 and R4: arguments stay as they are, and results share memory neither with them nor with each other.
func TestArgumentsAreNeitherChangedNorShared(t *testing.T) {
	const text = "-, 0, 1, 0 1, 0 0 1, 0 0 0 1 0"
	m, l := example(), lists.Spare(text)
	before := samples.Clone(m)
	for _, call := range []struct {
		name string
		make func() ([][]int, api.Errno)
	}{
		{"States", func() ([][]int, api.Errno) { return covers.States(m) }},
		{"Transitions", func() ([][]int, api.Errno) { return covers.Transitions(m) }},
		{"Switches", func() ([][]int, api.Errno) { return covers.Switches(m, 2) }},
	} {
		got, e := call.make()
		want := lists.Copy(got)
		if e != api.OK || !lists.Separate(got) {
			t.Errorf("%s: words share their memory: %s, error %d", call.name, words.Text(got[0]), e)
		}
		got, e = call.make()
		wantList(t, call.name+" again", got, e, want)
	}
	c, e := covers.Covered(m, l)
	d, f := covers.Covered(m, l)
	want := code(c)
	for s := range c.Edges {
		for i := range c.Edges[s] {
			c.Edges[s][i] = s == 1
		}
	}
	clear(c.States)
	if code(c) != "000 00 11 00" || code(d) != want || max(e, f) != api.OK {
		t.Errorf("covers share their memory: %s, %s: errors %d, %d", code(c), code(d), e, f)
	}
	covers.IsStateCover(m, l)
	covers.IsTransitionCover(m, l)
	if !machines.Same(m, before) || !lists.IsSpare(l, text) {
		t.Errorf("changed: %v, %s", m, lists.Text(l))
	}
}
