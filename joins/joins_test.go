package joins

import (
	"math"
	"slices"
	"testing"

	"gauntlet/api"
	"gauntlet/machines"
	"gauntlet/samples"
	"gauntlet/walks"
	"gauntlet/words"
)

// none is the undefined edge.
var none = api.Edge{To: api.None, Out: api.None}

// exampleA returns the machine a of the chapter's examples.
func exampleA() api.Machine {
	return samples.Machine(1, 2, []api.Edge{{To: 1, Out: 0}}, []api.Edge{{To: 0, Out: 1}})
}

// exampleB returns the machine b of the chapter's examples.
func exampleB() api.Machine {
	return samples.Machine(2, 2, []api.Edge{{To: 0, Out: 0}, {To: 1, Out: 1}}, []api.Edge{{To: 0, Out: 1}, {To: 1, Out: 0}})
}

// exampleC returns the machine c of the chapter's examples.
func exampleC() api.Machine {
	return samples.Machine(1, 1, []api.Edge{none})
}

// knot returns a machine with two inputs and three outputs in which each state but the initial one has an undefined edge. Its states are not numbered by their access words, and 3 is not reached.
func knot() api.Machine {
	return samples.Machine(2, 3,
		[]api.Edge{{To: 2, Out: 1}, {To: 1, Out: 2}},
		[]api.Edge{none, {To: 0, Out: 0}},
		[]api.Edge{{To: 1, Out: 2}, none},
		[]api.Edge{{To: 1, Out: 0}, none})
}

// telling returns a machine with one state that answers with these outputs.
func telling(outputs int, outs ...int) api.Machine {
	row := make([]api.Edge, len(outs))
	for i, out := range outs {
		row[i].Out = out
	}
	return samples.Machine(len(outs), outputs, row)
}

// turning returns a machine with one output that goes round its states with one of its inputs, and stays where it is with the others.
func turning(states, inputs, with int) api.Machine {
	m := samples.Machine(inputs, 1)
	for s := range states {
		row := make([]api.Edge, inputs)
		for i := range row {
			row[i].To = s
		}
		row[with].To = (s + 1) % states
		m.Rows = append(m.Rows, row)
	}
	return m
}

// repeating is the same with its inputs as its outputs.
func repeating(states, inputs, with int) api.Machine {
	m := turning(states, inputs, with)
	m.Outputs = inputs
	for _, row := range m.Rows {
		for i := range row {
			row[i].Out = i
		}
	}
	return m
}

// backwards returns a machine with one input and one output that goes from each state to the one before it, and from the first one to the last one.
func backwards(states int) api.Machine {
	m := samples.Machine(1, 1)
	for s := range states {
		m.Rows = append(m.Rows, []api.Edge{{To: (s + states - 1) % states}})
	}
	return m
}

// upTo returns the numbers from 0 to n - 1.
func upTo(n int) []int {
	l := make([]int, n)
	for i := range l {
		l[i] = i
	}
	return l
}

// lists returns all lists of at most so many numbers from least to below - 1.
func lists(most, least, below int) [][]int {
	var all [][]int
	for w := range words.All(below-least, most) {
		l := slices.Clone(w)
		for n := range l {
			l[n] += least
		}
		all = append(all, l)
	}
	return all
}

// isPermutation reports by the definition whether a list has each of so many numbers once.
func isPermutation(l []int, n int) bool {
	return slices.Equal(slices.Sorted(slices.Values(l)), upTo(n))
}

// wantMachine holds what was returned against a machine.
func wantMachine(t *testing.T, name string, got api.Machine, e api.Errno, want api.Machine) {
	t.Helper()
	if !machines.Same(got, want) || e != api.OK || !samples.Full(got) {
		t.Errorf("%s: %v, error %d; want %v", name, got, e, want)
	}
}

// wantRefused holds what was returned against an error.
func wantRefused(t *testing.T, name string, got api.Machine, e, want api.Errno) {
	t.Helper()
	if !samples.IsZero(got) || e != want {
		t.Errorf("%s: %v, error %d; want error %d", name, got, e, want)
	}
}

// jointEdge tells by a definition to which pair another one leads with an input, with which output, and whether it leads anywhere.
type jointEdge func(p [2]int, i int) ([2]int, int, bool)

// seriesEdge is the definition of machines in series.
func seriesEdge(a, b api.Machine) jointEdge {
	return func(p [2]int, i int) ([2]int, int, bool) {
		x := a.Rows[p[0]][i]
		if x == none {
			return [2]int{}, 0, false
		}
		y := b.Rows[p[1]][x.Out]
		return [2]int{x.To, y.To}, y.Out, y != none
	}
}

// parallelEdge is the definition of machines in parallel.
func parallelEdge(a, b api.Machine) jointEdge {
	return func(p [2]int, i int) ([2]int, int, bool) {
		x, y := a.Rows[p[0]][i], b.Rows[p[1]][i]
		return [2]int{x.To, y.To}, x.Out*b.Outputs + y.Out, x != none && y != none
	}
}

// pairMachine returns the machine with these pairs as its states. All pairs to which they lead must be among them.
func pairMachine(inputs, outputs int, pairs [][2]int, edge jointEdge) api.Machine {
	m := samples.Machine(inputs, outputs)
	for _, p := range pairs {
		row := make([]api.Edge, inputs)
		for i := range row {
			row[i] = none
			if to, out, there := edge(p, i); there {
				row[i] = api.Edge{To: slices.Index(pairs, to), Out: out}
			}
		}
		m.Rows = append(m.Rows, row)
	}
	return m
}

// byWords returns the pairs to which words with at most so many symbols lead, in the order of the least of these words.
func byWords(inputs, most int, edge jointEdge) [][2]int {
	var pairs [][2]int
	for w := range words.All(inputs, most) {
		p, there := [2]int{}, true
		for n := 0; n < len(w) && there; n++ {
			p, _, there = edge(p, w[n])
		}
		if there && !slices.Contains(pairs, p) {
			pairs = append(pairs, p)
		}
	}
	return pairs
}

// reached returns all pairs that are reached, in some order.
func reached(inputs int, edge jointEdge) [][2]int {
	var pairs [][2]int
	met := map[[2]int]bool{}
	var visit func(p [2]int)
	visit = func(p [2]int) {
		if met[p] {
			return
		}
		met[p] = true
		pairs = append(pairs, p)
		for i := range inputs {
			if to, _, there := edge(p, i); there {
				visit(to)
			}
		}
	}
	visit([2]int{})
	return pairs
}

// ended returns a response with None from its first None on.
func ended(response []int) []int {
	l, is := slices.Clone(response), true
	for n := range l {
		is = is && l[n] != api.None
		if !is {
			l[n] = api.None
		}
	}
	return l
}

// answer returns the response of a state to a word.
func answer(t *testing.T, m api.Machine, s int, w []int) []int {
	t.Helper()
	response, e := machines.Run(m, s, w)
	if e != api.OK {
		t.Fatalf("%v from %d with %v: error %d", m, s, w, e)
	}
	return response
}

// seriesAnswer returns the response of the second machine to that of the first one, None where one of both is not defined.
func seriesAnswer(t *testing.T, a, b api.Machine, w []int) []int {
	t.Helper()
	first := answer(t, a, 0, w)
	length := len(first)
	if n := slices.Index(first, api.None); n >= 0 {
		length = n
	}
	// The rest of the first response is None.
	return append(answer(t, b, 0, first[:length]), first[length:]...)
}

// parallelAnswer returns what tells both responses, None where one of both is not defined.
func parallelAnswer(t *testing.T, a, b api.Machine, w []int) []int {
	t.Helper()
	first, second := answer(t, a, 0, w), answer(t, b, 0, w)
	for n, out := range second {
		if first[n] == api.None || out == api.None {
			first[n] = api.None
			continue
		}
		first[n] = first[n]*b.Outputs + out
	}
	return ended(first)
}

// exactly returns for each small number of inputs all words of a length. Responses to shorter words are the beginnings of those to these.
func exactly(length int) [4][][]int {
	var l [4][][]int
	for inputs := 1; inputs < len(l); inputs++ {
		l[inputs] = slices.DeleteFunc(slices.Collect(words.All(inputs, length)), func(w []int) bool { return len(w) != length })
	}
	return l
}

// long returns words that are as long as there may be, without a pattern.
func long(inputs int) [][]int {
	var l [][]int
	for step := range 6 {
		w := make([]int, api.MaxWord)
		for n := range w {
			w[n] = (n*step + n*n/(step+1)) % inputs
		}
		l = append(l, w)
	}
	return l
}

// every returns one of so many machines. Lists that count through the edges are thinned evenly by a number that shares no divisor with that of the edges.
func every(step int, l []api.Machine) []api.Machine {
	var some []api.Machine
	for n := 0; n < len(l); n += step {
		some = append(some, l[n])
	}
	return some
}

// families returns lists of small machines by their numbers of inputs and outputs.
func families() [][]api.Machine {
	return [][]api.Machine{
		slices.Concat(samples.All(1, 1, 1), samples.All(2, 1, 1), samples.All(3, 1, 1)),
		slices.Concat(samples.All(1, 1, 2), samples.All(2, 1, 2), every(3, samples.All(3, 1, 2)), []api.Machine{exampleA()}),
		slices.Concat(samples.All(1, 2, 1), samples.All(2, 2, 1)),
		slices.Concat(samples.All(1, 2, 2), every(6, samples.All(2, 2, 2)), []api.Machine{exampleB()}),
		slices.Concat(samples.All(1, 1, 3), []api.Machine{telling(3, 2)}),
		slices.Concat([]api.Machine{knot(), telling(3, 1, 2), telling(3, 2, 0)}),
		slices.Concat(samples.All(1, 3, 1), []api.Machine{telling(1, 0, 0, 0), turning(2, 3, 2)}),
		slices.Concat(samples.All(1, 3, 2), []api.Machine{telling(2, 1, 0, 1)}),
	}
}

// smallPairs calls a function for any two small machines of two families that fit.
func smallPairs(fit func(a, b api.Machine) bool, call func(a, b api.Machine)) {
	for _, first := range families() {
		for _, second := range families() {
			if !fit(first[0], second[0]) {
				continue
			}
			for _, a := range first {
				for _, b := range second {
					call(a, b)
				}
			}
		}
	}
}

// large returns larger machines; those with two inputs and two outputs are the most.
func large() []api.Machine {
	l := []api.Machine{samples.Chain(64), samples.Chain(20), samples.Ring(64), samples.Ring(63), samples.Largest(), samples.LargestBut(none), turning(64, 2, 1), turning(64, 1, 0), turning(8, 2, 0), repeating(8, 2, 0), repeating(64, 16, 15), knot()}
	for seed := range 20 {
		l = append(l, samples.Scattered(4+seed, 2, seed), samples.Scattered(3+seed%7, 2, seed), samples.Scattered(2*seed+2, 1, seed))
	}
	return append(l, samples.Scattered(64, 2, 1), samples.Scattered(64, 1, 2))
}

// largePairs calls a function for any two larger machines that fit.
func largePairs(fit func(a, b api.Machine) bool, call func(a, b api.Machine)) {
	for _, a := range large() {
		for _, b := range large() {
			if fit(a, b) {
				call(a, b)
			}
		}
	}
}

// seriesFit reports whether two machines may be put in series.
func seriesFit(a, b api.Machine) bool { return a.Outputs == b.Inputs }

// parallelFit reports whether two machines may be put in parallel.
func parallelFit(a, b api.Machine) bool {
	return a.Inputs == b.Inputs && a.Outputs*b.Outputs <= api.MaxOutputs
}

// P11.1
func TestSeries(t *testing.T) {
	for _, x := range []struct {
		name string
		a, b api.Machine
		want api.Machine
	}{
		{"example", exampleA(), exampleB(), samples.Machine(1, 2, []api.Edge{{To: 1, Out: 0}}, []api.Edge{{To: 2, Out: 1}}, []api.Edge{{To: 1, Out: 1}})},
		{"one state each", telling(2, 1), telling(3, 0, 2), telling(3, 2)},
		{"inputs of the first, outputs of the second", telling(2, 1, 0, 1, 1), telling(5, 4, 3), telling(5, 3, 4, 3, 3)},
		{"outputs that no edge has", telling(1, 0), telling(16, 3), telling(16, 3)},
		{"the first undefined", samples.Machine(2, 2, []api.Edge{none, {Out: 1}}), telling(3, 0, 2), samples.Machine(2, 3, []api.Edge{none, {Out: 2}})},
		{"the second undefined", telling(2, 0, 1), samples.Machine(2, 3, []api.Edge{{Out: 2}, none}), samples.Machine(2, 3, []api.Edge{{Out: 2}, none})},
		{"both undefined", exampleC(), exampleC(), exampleC()},
		{"nothing behind an undefined edge of the first", exampleC(), turning(3, 1, 0), exampleC()},
		{"nothing behind an undefined edge of the second", turning(3, 1, 0), exampleC(), exampleC()},
		{"undefined later", turning(3, 1, 0), samples.Chain(2), samples.Chain(2)},
		{"an undefined edge where the other has one that is defined", samples.Machine(2, 2, []api.Edge{{To: 1, Out: 0}, none}, []api.Edge{none, {To: 0, Out: 1}}), samples.Machine(2, 2, []api.Edge{none, {To: 0, Out: 1}}), samples.Machine(2, 2, []api.Edge{none, none})},
		{"by the output of the edge, not by the input", exampleB(), samples.Machine(2, 2, []api.Edge{{To: 0, Out: 0}, {To: 1, Out: 0}}, []api.Edge{{To: 1, Out: 1}, {To: 1, Out: 1}}),
			samples.Machine(2, 2, []api.Edge{{To: 0, Out: 0}, {To: 1, Out: 0}}, []api.Edge{{To: 2, Out: 1}, {To: 1, Out: 1}}, []api.Edge{{To: 2, Out: 1}, {To: 1, Out: 1}})},
		{"numbered by access words", backwards(5), turning(5, 1, 0), turning(5, 1, 0)},
		{"numbered by access words, two inputs", samples.Machine(2, 2, []api.Edge{{To: 2, Out: 1}, {To: 1, Out: 0}}, []api.Edge{{To: 1, Out: 0}, {To: 1, Out: 0}}, []api.Edge{{To: 2, Out: 0}, {To: 0, Out: 1}}), telling(2, 0, 1),
			samples.Machine(2, 2, []api.Edge{{To: 1, Out: 1}, {To: 2, Out: 0}}, []api.Edge{{To: 1, Out: 0}, {To: 0, Out: 1}}, []api.Edge{{To: 2, Out: 0}, {To: 2, Out: 0}})},
		{"equivalent states are not merged", turning(2, 1, 0), turning(3, 1, 0), turning(6, 1, 0)},
		{"states that are not reached are left out", samples.Machine(1, 1, []api.Edge{{To: 0}}, []api.Edge{{To: 0}}), samples.Machine(1, 1, []api.Edge{{To: 2}}, []api.Edge{{To: 0}}, []api.Edge{{To: 2}}), samples.Machine(1, 1, []api.Edge{{To: 1}}, []api.Edge{{To: 1}})},
		{"as many states as there may be, of far more pairs", turning(64, 1, 0), turning(64, 1, 0), turning(64, 1, 0)},
		{"as many states as there may be, the second one has one", turning(64, 1, 0), telling(1, 0), turning(64, 1, 0)},
		{"the last of as many states as there may be leads back", turning(32, 1, 0), backwards(64), turning(64, 1, 0)},
		{"a chain of as many states as there may be", turning(63, 1, 0), samples.Chain(64), samples.Chain(64)},
		{"as many states, inputs and outputs as there may be", samples.Largest(), samples.Largest(), samples.Largest()},
	} {
		got, e := Series(x.a, x.b)
		wantMachine(t, x.name, got, e, x.want)
	}
}

// P11.2
func TestParallel(t *testing.T) {
	for _, x := range []struct {
		name string
		a, b api.Machine
		want api.Machine
	}{
		{"example", exampleA(), exampleA(), samples.Machine(1, 4, []api.Edge{{To: 1, Out: 0}}, []api.Edge{{To: 0, Out: 3}})},
		{"one state each", telling(3, 2, 0), telling(4, 1, 3), telling(12, 9, 3)},
		{"the other way", telling(4, 1, 3), telling(3, 2, 0), telling(12, 5, 9)},
		{"as many outputs as there may be", telling(4, 3), telling(4, 3), telling(16, 15)},
		{"all outputs from the first", telling(16, 15), telling(1, 0), telling(16, 15)},
		{"all outputs from the second", telling(1, 0), telling(16, 15), telling(16, 15)},
		{"outputs that no edge has", telling(3, 0), telling(5, 0), telling(15, 0)},
		{"the first undefined", samples.Machine(2, 2, []api.Edge{none, {Out: 1}}), telling(3, 0, 2), samples.Machine(2, 6, []api.Edge{none, {Out: 5}})},
		{"the second undefined", telling(3, 0, 2), samples.Machine(2, 2, []api.Edge{none, {Out: 1}}), samples.Machine(2, 6, []api.Edge{none, {Out: 5}})},
		{"both undefined", exampleC(), exampleC(), exampleC()},
		{"each of them undefined with another input", samples.Machine(2, 1, []api.Edge{{To: 1}, none}, []api.Edge{none, none}), samples.Machine(2, 1, []api.Edge{none, {To: 1}}, []api.Edge{none, none}), samples.Machine(2, 1, []api.Edge{none, none})},
		{"undefined later", turning(3, 1, 0), samples.Chain(2), samples.Chain(2)},
		{"numbered by access words", backwards(5), turning(5, 1, 0), turning(5, 1, 0)},
		{"numbered by access words, two inputs", samples.Machine(2, 2, []api.Edge{{To: 2, Out: 1}, {To: 1, Out: 0}}, []api.Edge{{To: 1, Out: 0}, {To: 1, Out: 0}}, []api.Edge{{To: 2, Out: 0}, {To: 0, Out: 1}}), telling(1, 0, 0),
			samples.Machine(2, 2, []api.Edge{{To: 1, Out: 1}, {To: 2, Out: 0}}, []api.Edge{{To: 1, Out: 0}, {To: 0, Out: 1}}, []api.Edge{{To: 2, Out: 0}, {To: 2, Out: 0}})},
		{"pairs of the same numbers in another order", turning(2, 2, 0), turning(2, 2, 1), samples.Machine(2, 1, []api.Edge{{To: 1}, {To: 2}}, []api.Edge{{To: 0}, {To: 3}}, []api.Edge{{To: 3}, {To: 0}}, []api.Edge{{To: 2}, {To: 1}})},
		{"equivalent states are not merged", turning(2, 1, 0), turning(3, 1, 0), turning(6, 1, 0)},
		{"states that are not reached are left out", samples.Machine(1, 1, []api.Edge{{To: 0}}, []api.Edge{{To: 0}}), samples.Machine(1, 1, []api.Edge{{To: 2}}, []api.Edge{{To: 0}}, []api.Edge{{To: 2}}), samples.Machine(1, 1, []api.Edge{{To: 1}}, []api.Edge{{To: 1}})},
		{"as many states as there may be, of far more pairs", turning(64, 1, 0), turning(64, 1, 0), turning(64, 1, 0)},
		{"a chain of as many states as there may be", samples.Chain(64), turning(63, 1, 0), samples.Chain(64)},
		{"as many states, inputs and outputs as there may be", samples.Largest(), turning(1, 16, 0), samples.Largest()},
	} {
		got, e := Parallel(x.a, x.b)
		wantMachine(t, x.name, got, e, x.want)
	}
}

// P11.1, P11.2
func TestJointMachinesFollowTheDefinition(t *testing.T) {
	smallPairs(seriesFit, func(a, b api.Machine) {
		// A least word leads to no pair twice, so it has fewer symbols than there are pairs.
		edge, most := seriesEdge(a, b), len(a.Rows)*len(b.Rows)-1
		got, e := Series(a, b)
		if want := pairMachine(a.Inputs, b.Outputs, byWords(a.Inputs, most, edge), edge); !machines.Same(got, want) || e != api.OK || !samples.Full(got) {
			t.Errorf("Series(%v, %v) = %v, error %d; want %v", a, b, got, e, want)
		}
	})
	smallPairs(parallelFit, func(a, b api.Machine) {
		edge, most := parallelEdge(a, b), len(a.Rows)*len(b.Rows)-1
		got, e := Parallel(a, b)
		if want := pairMachine(a.Inputs, a.Outputs*b.Outputs, byWords(a.Inputs, most, edge), edge); !machines.Same(got, want) || e != api.OK || !samples.Full(got) {
			t.Errorf("Parallel(%v, %v) = %v, error %d; want %v", a, b, got, e, want)
		}
	})
}

// wantJoint holds a joint machine against the pairs that are reached, however many they are, and reports whether they are few enough.
func wantJoint(t *testing.T, name string, got api.Machine, e api.Errno, inputs, outputs int, edge jointEdge) bool {
	t.Helper()
	pairs := reached(inputs, edge)
	if len(pairs) > api.MaxStates {
		wantRefused(t, name, got, e, api.ErrLimit)
		return false
	}
	want, _ := walks.Canonical(pairMachine(inputs, outputs, pairs, edge))
	wantMachine(t, name, got, e, want)
	return true
}

// P11.1, P11.2
func TestLargeJointMachinesFollowTheDefinition(t *testing.T) {
	few, many := 0, 0
	count := func(is bool) {
		if is {
			few++
		} else {
			many++
		}
	}
	largePairs(seriesFit, func(a, b api.Machine) {
		got, e := Series(a, b)
		count(wantJoint(t, "Series", got, e, a.Inputs, b.Outputs, seriesEdge(a, b)))
	})
	largePairs(parallelFit, func(a, b api.Machine) {
		got, e := Parallel(a, b)
		count(wantJoint(t, "Parallel", got, e, a.Inputs, a.Outputs*b.Outputs, parallelEdge(a, b)))
	})
	if few < 200 || many < 200 {
		t.Errorf("%d machines with few enough states, and %d with too many, have been tried", few, many)
	}
}

// leastMultiple returns the least common multiple of two numbers above 0.
func leastMultiple(a, b int) int {
	n := a
	for n%b != 0 {
		n += a
	}
	return n
}

// P11.1, P11.2
func TestOnlyPairsThatAreReachedCount(t *testing.T) {
	hold := func(name string, got api.Machine, e api.Errno, states int) {
		if states > api.MaxStates {
			wantRefused(t, name, got, e, api.ErrLimit)
		} else if len(got.Rows) != states || e != api.OK {
			t.Errorf("%s: %v, error %d; want %d states", name, got, e, states)
		}
	}
	for a := 1; a <= api.MaxStates; a++ {
		for b := 1; b <= api.MaxStates; b++ {
			got, e := Series(turning(a, 1, 0), turning(b, 1, 0))
			hold("Series, one input", got, e, leastMultiple(a, b))
			got, e = Parallel(turning(a, 1, 0), turning(b, 1, 0))
			hold("Parallel, one input", got, e, leastMultiple(a, b))
			got, e = Series(repeating(a, 2, 0), turning(b, 2, 1))
			hold("Series, two inputs", got, e, a*b)
			got, e = Parallel(turning(a, 2, 0), turning(b, 2, 1))
			hold("Parallel, two inputs", got, e, a*b)
		}
	}
}

// P11.1
func TestSeriesRefuses(t *testing.T) {
	for _, x := range []struct {
		name string
		a, b api.Machine
		want api.Errno
	}{
		{"example", exampleA(), exampleC(), api.ErrAlpha},
		{"example, the machine itself", exampleA(), exampleA(), api.ErrAlpha},
		{"fewer outputs than inputs", exampleC(), exampleB(), api.ErrAlpha},
		{"as many inputs, but other outputs", turning(1, 2, 0), exampleB(), api.ErrAlpha},
		{"as many outputs, but other inputs", exampleB(), telling(2, 0, 0, 1), api.ErrAlpha},
		{"they would fit the other way", telling(3, 0, 0), telling(2, 0), api.ErrAlpha},
		{"an output that no edge has", telling(2, 0), telling(1, 0), api.ErrAlpha},
		{"nothing defined", exampleC(), samples.Machine(2, 1, []api.Edge{none, none}), api.ErrAlpha},
		{"most outputs and fewest inputs", samples.Largest(), samples.Chain(64), api.ErrAlpha},
		{"65 states", turning(5, 1, 0), turning(13, 1, 0), api.ErrLimit},
		{"65 states, the other way", turning(13, 1, 0), turning(5, 1, 0), api.ErrLimit},
		{"65 states, two inputs", repeating(13, 2, 1), turning(5, 2, 0), api.ErrLimit},
		{"all pairs of as many states as there may be", repeating(64, 2, 0), turning(64, 2, 1), api.ErrLimit},
		{"65 states, of which the last one has no edge", turning(64, 1, 0), samples.Machine(1, 1, append(backwards(63).Rows, []api.Edge{none})...), api.ErrLimit},
		{"largest", repeating(64, 16, 15), samples.Largest(), api.ErrLimit},
	} {
		got, e := Series(x.a, x.b)
		wantRefused(t, x.name, got, e, x.want)
	}
}

// P11.2
func TestParallelRefuses(t *testing.T) {
	for _, x := range []struct {
		name string
		a, b api.Machine
		want api.Errno
	}{
		{"example", exampleA(), exampleB(), api.ErrAlpha},
		{"example, the other way", exampleB(), exampleA(), api.ErrAlpha},
		{"the outputs of the one are the inputs of the other", exampleA(), telling(1, 0, 0), api.ErrAlpha},
		{"nothing defined", exampleC(), samples.Machine(2, 1, []api.Edge{none, none}), api.ErrAlpha},
		{"most and fewest inputs", turning(64, 16, 0), turning(64, 1, 0), api.ErrAlpha},
		{"other inputs before too many outputs", samples.Largest(), samples.Ring(64), api.ErrAlpha},
		{"other inputs before too many states", turning(64, 2, 0), turning(63, 1, 0), api.ErrAlpha},
		{"18 outputs", telling(3, 0), telling(6, 0), api.ErrLimit},
		{"18 outputs, the other way", telling(6, 0), telling(3, 0), api.ErrLimit},
		{"20 outputs that no edge has", samples.Machine(1, 4, []api.Edge{none}), samples.Machine(1, 5, []api.Edge{none}), api.ErrLimit},
		{"32 outputs", telling(16, 0), telling(2, 0), api.ErrLimit},
		{"256 outputs", samples.Largest(), samples.Largest(), api.ErrLimit},
		{"65 states", turning(5, 1, 0), turning(13, 1, 0), api.ErrLimit},
		{"65 states, two inputs", turning(13, 2, 1), turning(5, 2, 0), api.ErrLimit},
		{"all pairs of as many states as there may be", turning(64, 2, 0), turning(64, 2, 1), api.ErrLimit},
		{"too many states with as many outputs as there may be", samples.Ring(64), turning(63, 1, 0), api.ErrLimit},
		{"largest", samples.Largest(), turning(64, 16, 15), api.ErrLimit},
	} {
		got, e := Parallel(x.a, x.b)
		wantRefused(t, x.name, got, e, x.want)
	}
}

// P11.3
func TestRename(t *testing.T) {
	m := knot()
	reversed := upTo(64)
	slices.Reverse(reversed[1:])
	for _, x := range []struct {
		name              string
		m                 api.Machine
		ins, outs, states []int
		want              api.Machine
	}{
		{"example", exampleA(), []int{0}, []int{1, 0}, []int{0, 1}, samples.Machine(1, 2, []api.Edge{{To: 1, Out: 1}}, []api.Edge{{To: 0, Out: 0}})},
		{"the same numbers", m, []int{0, 1}, []int{0, 1, 2}, []int{0, 1, 2, 3}, m},
		{"other inputs", m, []int{1, 0}, []int{0, 1, 2}, []int{0, 1, 2, 3}, samples.Machine(2, 3, []api.Edge{{To: 1, Out: 2}, {To: 2, Out: 1}}, []api.Edge{{To: 0, Out: 0}, none}, []api.Edge{none, {To: 1, Out: 2}}, []api.Edge{none, {To: 1, Out: 0}})},
		{"other outputs", m, []int{0, 1}, []int{1, 2, 0}, []int{0, 1, 2, 3}, samples.Machine(2, 3, []api.Edge{{To: 2, Out: 2}, {To: 1, Out: 0}}, []api.Edge{none, {To: 0, Out: 1}}, []api.Edge{{To: 1, Out: 0}, none}, []api.Edge{{To: 1, Out: 1}, none})},
		{"other states", m, []int{0, 1}, []int{0, 1, 2}, []int{0, 2, 3, 1}, samples.Machine(2, 3, []api.Edge{{To: 3, Out: 1}, {To: 2, Out: 2}}, []api.Edge{{To: 2, Out: 0}, none}, []api.Edge{none, {To: 0, Out: 0}}, []api.Edge{{To: 2, Out: 2}, none})},
		{"all of them", m, []int{1, 0}, []int{2, 0, 1}, []int{0, 3, 1, 2}, samples.Machine(2, 3, []api.Edge{{To: 3, Out: 1}, {To: 1, Out: 0}}, []api.Edge{none, {To: 3, Out: 1}}, []api.Edge{none, {To: 3, Out: 2}}, []api.Edge{{To: 0, Out: 2}, none})},
		{"nothing defined", exampleC(), []int{0}, []int{0}, []int{0}, exampleC()},
		{"outputs that no edge has", telling(3, 1), []int{0}, []int{2, 1, 0}, []int{0}, telling(3, 1)},
		{"ring, the other way round", backwards(64), []int{0}, []int{0}, reversed, turning(64, 1, 0)},
		{"largest", samples.Largest(), upTo(16), upTo(16), upTo(64), samples.Largest()},
	} {
		got, e := Rename(x.m, x.ins, x.outs, x.states)
		wantMachine(t, x.name, got, e, x.want)
	}
}

// P11.3
func TestRenameFollowsTheDefinition(t *testing.T) {
	for _, m := range slices.Concat(samples.All(1, 2, 2), every(3, samples.All(2, 1, 2)), every(3, samples.All(3, 1, 1)), every(4, samples.All(2, 2, 1))) {
		inputs, outputs, states := m.Inputs, m.Outputs, len(m.Rows)
		// Lists of other lengths, with numbers that are too small and too great.
		for _, ins := range lists(inputs+1, -1, inputs+1) {
			for _, outs := range lists(outputs+1, -1, outputs+1) {
				for _, numbers := range lists(states, -1, states+1) {
					got, e := Rename(m, ins, outs, numbers)
					switch {
					case len(ins) != inputs || len(outs) != outputs || len(numbers) != states:
						if !samples.IsZero(got) || e != api.ErrCount {
							t.Fatalf("Rename(%v, %v, %v, %v) = %v, error %d", m, ins, outs, numbers, got, e)
						}
					case !isPermutation(ins, inputs) || !isPermutation(outs, outputs) || !isPermutation(numbers, states) || numbers[0] != 0:
						if !samples.IsZero(got) || e != api.ErrArg {
							t.Fatalf("Rename(%v, %v, %v, %v) = %v, error %d", m, ins, outs, numbers, got, e)
						}
					default:
						holdRenamed(t, m, ins, outs, numbers, got, e)
					}
				}
			}
		}
	}
}

// holdRenamed holds a machine with other numbers against the definition.
func holdRenamed(t *testing.T, m api.Machine, ins, outs, states []int, got api.Machine, e api.Errno) {
	t.Helper()
	if e != api.OK || got.Inputs != m.Inputs || got.Outputs != m.Outputs || len(got.Rows) != len(m.Rows) || !samples.Full(got) {
		t.Fatalf("Rename(%v, %v, %v, %v) = %v, error %d", m, ins, outs, states, got, e)
	}
	for s, row := range m.Rows {
		for i, x := range row {
			if x != none {
				x = api.Edge{To: states[x.To], Out: outs[x.Out]}
			}
			if y := got.Rows[states[s]][ins[i]]; y != x {
				t.Errorf("Rename(%v, %v, %v, %v) = %v: %v in %d for %d; want %v", m, ins, outs, states, got, y, states[s], ins[i], x)
			}
		}
	}
}

// turned returns a permutation of so many numbers that keeps 0 if asked to.
func turned(n, by int, keep bool) []int {
	l := upTo(n)
	moved := l
	if keep {
		moved = l[1:]
	}
	for range by % max(1, len(moved)) {
		first := moved[0]
		copy(moved, moved[1:])
		moved[len(moved)-1] = first
	}
	return l
}

// P11.3
func TestLargeMachinesAreRenamed(t *testing.T) {
	for n, m := range large() {
		ins, outs, states := turned(m.Inputs, n, false), turned(m.Outputs, n+1, false), turned(len(m.Rows), n+2, true)
		got, e := Rename(m, ins, outs, states)
		holdRenamed(t, m, ins, outs, states, got, e)
	}
}

// P11.3
func TestRenameRefuses(t *testing.T) {
	m := knot()
	ins, outs, states := []int{1, 0}, []int{2, 0, 1}, []int{0, 2, 3, 1}
	for _, x := range []struct {
		name              string
		ins, outs, states []int
		want              api.Errno
	}{
		{"no inputs", nil, outs, states, api.ErrCount},
		{"no outputs", ins, []int{}, states, api.ErrCount},
		{"no states", ins, outs, nil, api.ErrCount},
		{"no lists", nil, nil, nil, api.ErrCount},
		{"one input too few", []int{0}, outs, states, api.ErrCount},
		{"one output too few", ins, []int{0, 1}, states, api.ErrCount},
		{"one state too few", ins, outs, []int{0, 1, 2}, api.ErrCount},
		{"one input too many", []int{1, 0, 2}, outs, states, api.ErrCount},
		{"one output too many", ins, []int{0, 1, 2, 3}, states, api.ErrCount},
		{"one state too many", ins, outs, []int{0, 1, 2, 3, 4}, api.ErrCount},
		{"far too many inputs", make([]int, 70000), outs, states, api.ErrCount},
		{"far too many outputs", ins, make([]int, 70000), states, api.ErrCount},
		{"far too many states", ins, outs, make([]int, 70000), api.ErrCount},
		{"too few states before an input twice", []int{0, 0}, outs, []int{0}, api.ErrCount},
		{"too many outputs before no input", []int{0, 2}, []int{0, 1, 2, 3}, states, api.ErrCount},
		{"too few states before the initial one", ins, outs, []int{1, 0, 2}, api.ErrCount},
		{"an input twice", []int{0, 0}, outs, states, api.ErrArg},
		{"an output twice", ins, []int{0, 1, 0}, states, api.ErrArg},
		{"a state twice", ins, outs, []int{0, 1, 2, 1}, api.ErrArg},
		{"the initial state twice", ins, outs, []int{0, 1, 2, 0}, api.ErrArg},
		{"an input too great", []int{0, 2}, outs, states, api.ErrArg},
		{"an output too great", ins, []int{3, 0, 1}, states, api.ErrArg},
		{"a state too great", ins, outs, []int{0, 1, 4, 3}, api.ErrArg},
		{"a negative input", []int{-1, 0}, outs, states, api.ErrArg},
		{"a negative output", ins, []int{0, 1, -1}, states, api.ErrArg},
		{"a negative state", ins, outs, []int{0, 1, 2, -1}, api.ErrArg},
		{"the numbers of states where those of outputs must be", ins, []int{0, 1, 3}, states, api.ErrArg},
		{"greatest", ins, []int{0, 1, math.MaxInt}, states, api.ErrArg},
		{"least", ins, outs, []int{0, math.MinInt, 2, 3}, api.ErrArg},
		{"another initial state", ins, outs, []int{1, 0, 2, 3}, api.ErrArg},
		{"another initial state, the last one", ins, outs, []int{3, 1, 2, 0}, api.ErrArg},
	} {
		got, e := Rename(m, x.ins, x.outs, x.states)
		wantRefused(t, x.name, got, e, x.want)
	}
}

// P11.4
func TestFill(t *testing.T) {
	stuckElsewhere := samples.Machine(1, 2, []api.Edge{{To: 0, Out: 1}}, []api.Edge{none})
	for _, x := range []struct {
		name string
		m    api.Machine
		way  Way
		out  int
		want api.Machine
	}{
		{"example, Loop", exampleC(), Loop, 0, samples.Machine(1, 1, []api.Edge{{}})},
		{"example, Sink", exampleC(), Sink, 0, samples.Machine(1, 1, []api.Edge{{To: 1}}, []api.Edge{{To: 1}})},
		{"knot, Loop", knot(), Loop, 2, samples.Machine(2, 3, []api.Edge{{To: 2, Out: 1}, {To: 1, Out: 2}}, []api.Edge{{To: 1, Out: 2}, {To: 0, Out: 0}}, []api.Edge{{To: 1, Out: 2}, {To: 2, Out: 2}}, []api.Edge{{To: 1, Out: 0}, {To: 3, Out: 2}})},
		{"knot, Sink", knot(), Sink, 1, samples.Machine(2, 3, []api.Edge{{To: 2, Out: 1}, {To: 1, Out: 2}}, []api.Edge{{To: 4, Out: 1}, {To: 0, Out: 0}}, []api.Edge{{To: 1, Out: 2}, {To: 4, Out: 1}}, []api.Edge{{To: 1, Out: 0}, {To: 4, Out: 1}}, []api.Edge{{To: 4, Out: 1}, {To: 4, Out: 1}})},
		{"complete, Loop", exampleB(), Loop, 1, exampleB()},
		{"complete, Sink", exampleB(), Sink, 1, exampleB()},
		{"undefined in a state that is not reached, Loop", stuckElsewhere, Loop, 0, samples.Machine(1, 2, []api.Edge{{To: 0, Out: 1}}, []api.Edge{{To: 1, Out: 0}})},
		{"undefined in a state that is not reached, Sink", stuckElsewhere, Sink, 0, samples.Machine(1, 2, []api.Edge{{To: 0, Out: 1}}, []api.Edge{{To: 2, Out: 0}}, []api.Edge{{To: 2, Out: 0}})},
		{"the last output", samples.Machine(1, 16, []api.Edge{none}), Sink, 15, samples.Machine(1, 16, []api.Edge{{To: 1, Out: 15}}, []api.Edge{{To: 1, Out: 15}})},
		{"as many states as there may be, Loop", samples.Chain(64), Loop, 0, samples.Changed(samples.Chain(64), func(m *api.Machine) { m.Rows[63][0] = api.Edge{To: 63} })},
		{"as many states as there may be afterwards, Sink", samples.Chain(63), Sink, 0, samples.Changed(samples.Chain(64), func(m *api.Machine) { m.Rows[63][0] = api.Edge{To: 63} })},
		{"as many states as there may be, complete, Sink", samples.Largest(), Sink, 15, samples.Largest()},
		{"largest, Loop", samples.LargestBut(none), Loop, 14, samples.LargestBut(api.Edge{To: 63, Out: 14})},
	} {
		got, e := Fill(x.m, x.way, x.out)
		wantMachine(t, x.name, got, e, x.want)
	}
}

// holdFilled holds a machine without undefined edges against the definition.
func holdFilled(t *testing.T, m api.Machine, way Way, out int, got api.Machine, e api.Errno) {
	t.Helper()
	want := samples.Clone(m)
	undefined, _ := machines.Undefined(m)
	for _, at := range undefined {
		want.Rows[at[0]][at[1]] = api.Edge{To: at[0], Out: out}
		if way == Sink {
			want.Rows[at[0]][at[1]].To = len(m.Rows)
		}
	}
	if way == Sink && len(undefined) > 0 {
		want.Rows = append(want.Rows, slices.Repeat([]api.Edge{{To: len(m.Rows), Out: out}}, m.Inputs))
	}
	if !machines.Same(got, want) || e != api.OK || !samples.Full(got) {
		t.Errorf("Fill(%v, %d, %d) = %v, error %d; want %v", m, way, out, got, e, want)
	}
}

// P11.4
func TestFillFollowsTheDefinition(t *testing.T) {
	for _, m := range slices.Concat(samples.Small(), large()) {
		for out := range m.Outputs {
			got, e := Fill(m, Loop, out)
			holdFilled(t, m, Loop, out, got, e)
			got, e = Fill(m, Sink, out)
			if complete, _ := machines.Complete(m); !complete && len(m.Rows) == api.MaxStates {
				wantRefused(t, "one state too many", got, e, api.ErrLimit)
				continue
			}
			holdFilled(t, m, Sink, out, got, e)
		}
	}
}

// P11.4
func TestFillRefuses(t *testing.T) {
	for _, x := range []struct {
		name string
		m    api.Machine
		way  Way
		out  int
		want api.Errno
	}{
		{"example", exampleC(), Loop, 1, api.ErrArg},
		{"example, Sink", exampleC(), Sink, 1, api.ErrArg},
		{"another way", exampleC(), Sink + 1, 0, api.ErrArg},
		{"the last number of a way", exampleC(), 255, 0, api.ErrArg},
		{"another way, complete", exampleB(), 2, 0, api.ErrArg},
		{"another way and no output", exampleC(), 2, 1, api.ErrArg},
		{"no output, complete", exampleB(), Loop, 2, api.ErrArg},
		{"no output, complete, Sink", exampleB(), Sink, 2, api.ErrArg},
		{"none", exampleC(), Loop, api.None, api.ErrArg},
		{"least", exampleC(), Sink, math.MinInt, api.ErrArg},
		{"greatest", exampleC(), Loop, math.MaxInt, api.ErrArg},
		{"none, complete", exampleB(), Sink, api.None, api.ErrArg},
		{"too great for the most outputs", samples.LargestBut(none), Loop, 16, api.ErrArg},
		{"a state too many", samples.Chain(64), Sink, 0, api.ErrLimit},
		{"a state too many, for a single edge", samples.LargestBut(none), Sink, 15, api.ErrLimit},
		{"no output before a state too many", samples.Chain(64), Sink, 1, api.ErrArg},
		{"another way, no state too many", samples.Chain(64), 2, 0, api.ErrArg},
	} {
		got, e := Fill(x.m, x.way, x.out)
		wantRefused(t, x.name, got, e, x.want)
	}
}

// P11.5
func TestRestrict(t *testing.T) {
	for _, x := range []struct {
		name string
		m    api.Machine
		ins  []int
		want api.Machine
	}{
		{"example", exampleB(), []int{1}, samples.Machine(1, 2, []api.Edge{{To: 1, Out: 1}}, []api.Edge{{To: 1, Out: 0}})},
		{"the other input", exampleB(), []int{0}, samples.Machine(1, 2, []api.Edge{{To: 0, Out: 0}}, []api.Edge{{To: 0, Out: 1}})},
		{"all inputs", exampleB(), []int{0, 1}, exampleB()},
		{"in another order", exampleB(), []int{1, 0}, samples.Machine(2, 2, []api.Edge{{To: 1, Out: 1}, {To: 0, Out: 0}}, []api.Edge{{To: 1, Out: 0}, {To: 0, Out: 1}})},
		{"undefined edges", knot(), []int{0}, samples.Machine(1, 3, []api.Edge{{To: 2, Out: 1}}, []api.Edge{none}, []api.Edge{{To: 1, Out: 2}}, []api.Edge{{To: 1, Out: 0}})},
		{"three of four, descending", telling(9, 5, 6, 7, 8), []int{3, 2, 0}, telling(9, 8, 7, 5)},
		{"nothing defined", exampleC(), []int{0}, exampleC()},
		{"states that are not reached any more", turning(64, 2, 1), []int{0}, samples.Changed(turning(64, 1, 0), func(m *api.Machine) {
			for s := range m.Rows {
				m.Rows[s][0].To = s
			}
		})},
		{"as many inputs as there may be", samples.Largest(), upTo(16), samples.Largest()},
	} {
		got, e := Restrict(x.m, x.ins)
		wantMachine(t, x.name, got, e, x.want)
	}
}

// holdRestricted holds a machine with some of the inputs against the definition.
func holdRestricted(t *testing.T, m api.Machine, ins []int, got api.Machine, e api.Errno) {
	t.Helper()
	want := samples.Machine(len(ins), m.Outputs)
	for _, row := range m.Rows {
		var edges []api.Edge
		for _, i := range ins {
			edges = append(edges, row[i])
		}
		want.Rows = append(want.Rows, edges)
	}
	if !machines.Same(got, want) || e != api.OK || !samples.Full(got) {
		t.Errorf("Restrict(%v, %v) = %v, error %d; want %v", m, ins, got, e, want)
	}
}

// P11.5
func TestRestrictFollowsTheDefinition(t *testing.T) {
	for _, m := range slices.Concat(samples.All(2, 1, 2), samples.All(1, 2, 2), samples.All(2, 2, 1), samples.All(1, 3, 2), []api.Machine{exampleB(), knot(), samples.Scattered(5, 3, 1), samples.Scattered(64, 3, 2)}) {
		for _, ins := range lists(4, -1, m.Inputs+1) {
			got, e := Restrict(m, ins)
			distinct := len(slices.Compact(slices.Sorted(slices.Values(ins)))) == len(ins)
			if len(ins) == 0 || !distinct || slices.Min(ins) < 0 || slices.Max(ins) >= m.Inputs {
				wantRefused(t, "lists of inputs", got, e, api.ErrArg)
				continue
			}
			holdRestricted(t, m, ins, got, e)
		}
	}
	for count := 1; count <= 16; count++ {
		ins := turned(16, 3*count, false)[:count]
		got, e := Restrict(samples.LargestBut(none), ins)
		holdRestricted(t, samples.LargestBut(none), ins, got, e)
	}
}

// P11.5
func TestRestrictRefuses(t *testing.T) {
	for _, x := range []struct {
		name string
		m    api.Machine
		ins  []int
		want api.Errno
	}{
		{"example", exampleB(), []int{1, 1}, api.ErrArg},
		{"nil", exampleB(), nil, api.ErrArg},
		{"empty", exampleB(), []int{}, api.ErrArg},
		{"no input", exampleB(), []int{2}, api.ErrArg},
		{"no input at the end", exampleB(), []int{0, 1, 2}, api.ErrArg},
		{"negative", exampleB(), []int{-1}, api.ErrArg},
		{"negative at the end", exampleB(), []int{1, 0, -1}, api.ErrArg},
		{"twice, but not one after the other", exampleB(), []int{0, 1, 0}, api.ErrArg},
		{"greatest", exampleB(), []int{math.MaxInt}, api.ErrArg},
		{"least", exampleB(), []int{0, math.MinInt}, api.ErrArg},
		{"the last of as many inputs as there may be", samples.Largest(), append(upTo(15), 14), api.ErrArg},
		{"no input behind as many as there may be", samples.Largest(), append(upTo(15), 16), api.ErrArg},
		{"as many elements as there may be, all the same", exampleB(), make([]int, 16), api.ErrArg},
		{"one element too many", samples.Largest(), upTo(17), api.ErrLimit},
		{"too many elements, all the same", exampleB(), make([]int, 17), api.ErrLimit},
		{"too many elements before no input", exampleB(), append([]int{-1, 2}, make([]int, 15)...), api.ErrLimit},
		{"far too many elements", exampleB(), make([]int, 70000), api.ErrLimit},
	} {
		got, e := Restrict(x.m, x.ins)
		wantRefused(t, x.name, got, e, x.want)
	}
}

// P11.6
func TestUnite(t *testing.T) {
	two := samples.Machine(1, 1, append(turning(32, 1, 0).Rows, turning(32, 1, 0).Rows...)...)
	for _, row := range two.Rows[32:] {
		row[0].To += 32
	}
	for _, x := range []struct {
		name string
		a, b api.Machine
		want api.Machine
	}{
		{"example", exampleA(), exampleC(), samples.Machine(1, 2, []api.Edge{{To: 1, Out: 0}}, []api.Edge{{To: 0, Out: 1}}, []api.Edge{none})},
		{"example, the other way", exampleC(), exampleA(), samples.Machine(1, 2, []api.Edge{none}, []api.Edge{{To: 2, Out: 0}}, []api.Edge{{To: 1, Out: 1}})},
		{"itself", exampleA(), exampleA(), samples.Machine(1, 2, []api.Edge{{To: 1, Out: 0}}, []api.Edge{{To: 0, Out: 1}}, []api.Edge{{To: 3, Out: 0}}, []api.Edge{{To: 2, Out: 1}})},
		{"several inputs", exampleB(), knot(), samples.Machine(2, 3, []api.Edge{{To: 0, Out: 0}, {To: 1, Out: 1}}, []api.Edge{{To: 0, Out: 1}, {To: 1, Out: 0}},
			[]api.Edge{{To: 4, Out: 1}, {To: 3, Out: 2}}, []api.Edge{none, {To: 2, Out: 0}}, []api.Edge{{To: 3, Out: 2}, none}, []api.Edge{{To: 3, Out: 0}, none})},
		{"the most and the fewest outputs", telling(16, 15), telling(1, 0), samples.Machine(1, 16, []api.Edge{{To: 0, Out: 15}}, []api.Edge{{To: 1, Out: 0}})},
		{"the fewest and the most outputs", telling(1, 0), telling(16, 15), samples.Machine(1, 16, []api.Edge{{To: 0, Out: 0}}, []api.Edge{{To: 1, Out: 15}})},
		{"nothing defined", exampleC(), exampleC(), samples.Machine(1, 1, []api.Edge{none}, []api.Edge{none})},
		{"as many states as there may be", turning(32, 1, 0), turning(32, 1, 0), two},
		{"as many states as there may be, most of them from the first one", samples.Chain(63), exampleC(), samples.Changed(samples.Chain(64), func(m *api.Machine) { m.Rows[62][0] = none })},
		{"as many states as there may be, most of them from the second one", samples.Machine(1, 1, []api.Edge{{}}), samples.Chain(63), samples.Changed(samples.Chain(64), func(m *api.Machine) { m.Rows[0][0] = api.Edge{} })},
	} {
		got, e := Unite(x.a, x.b)
		wantMachine(t, x.name, got, e, x.want)
	}
}

// holdUnited holds united machines against the definition.
func holdUnited(t *testing.T, a, b, got api.Machine, e api.Errno) {
	t.Helper()
	want := samples.Clone(a)
	want.Outputs = max(a.Outputs, b.Outputs)
	for _, row := range samples.Clone(b).Rows {
		for i, x := range row {
			if x != none {
				row[i].To += len(a.Rows)
			}
		}
		want.Rows = append(want.Rows, row)
	}
	if !machines.Same(got, want) || e != api.OK || !samples.Full(got) {
		t.Errorf("Unite(%v, %v) = %v, error %d; want %v", a, b, got, e, want)
	}
}

// uniteFit reports whether two machines may be united, however many states they have.
func uniteFit(a, b api.Machine) bool { return a.Inputs == b.Inputs }

// P11.6
func TestUniteFollowsTheDefinition(t *testing.T) {
	smallPairs(uniteFit, func(a, b api.Machine) {
		got, e := Unite(a, b)
		holdUnited(t, a, b, got, e)
	})
	few, many := 0, 0
	largePairs(uniteFit, func(a, b api.Machine) {
		got, e := Unite(a, b)
		if len(a.Rows)+len(b.Rows) > api.MaxStates {
			many++
			wantRefused(t, "too many states", got, e, api.ErrLimit)
			return
		}
		few++
		holdUnited(t, a, b, got, e)
	})
	if few < 200 || many < 200 {
		t.Errorf("%d machines with few enough states, and %d with too many, have been tried", few, many)
	}
}

// P11.6
func TestUniteRefuses(t *testing.T) {
	for _, x := range []struct {
		name string
		a, b api.Machine
		want api.Errno
	}{
		{"example", exampleA(), exampleB(), api.ErrAlpha},
		{"example, the other way", exampleB(), exampleA(), api.ErrAlpha},
		{"nothing defined", exampleC(), samples.Machine(2, 1, []api.Edge{none, none}), api.ErrAlpha},
		{"the outputs of the one are the inputs of the other", telling(2, 1), telling(1, 0, 0), api.ErrAlpha},
		{"other inputs before too many states", samples.Largest(), samples.Chain(64), api.ErrAlpha},
		{"65 states", turning(32, 1, 0), turning(33, 1, 0), api.ErrLimit},
		{"65 states, most of them from the first one", samples.Chain(64), exampleC(), api.ErrLimit},
		{"65 states, most of them from the second one", exampleC(), samples.Chain(64), api.ErrLimit},
		{"128 states", samples.Largest(), samples.Largest(), api.ErrLimit},
	} {
		got, e := Unite(x.a, x.b)
		wantRefused(t, x.name, got, e, x.want)
	}
}

// P11.1, P11.2, P11.3, P11.4, P11.5, P11.6
func TestTheMachinesAreCheckedFirst(t *testing.T) {
	both := []func(a, b api.Machine) (api.Machine, api.Errno){Series, Parallel, Unite}
	for _, x := range samples.Invalid() {
		for _, join := range both {
			for _, m := range []api.Machine{exampleA(), exampleB(), exampleC(), samples.Largest()} {
				got, e := join(x.M, m)
				wantRefused(t, x.Name+" first", got, e, x.Want)
				got, e = join(m, x.M)
				wantRefused(t, x.Name+" second", got, e, x.Want)
			}
			for _, y := range samples.Invalid() {
				got, e := join(x.M, y.M)
				wantRefused(t, x.Name+" before "+y.Name, got, e, x.Want)
			}
		}
		for _, l := range [][]int{nil, {0}, {0, 1}, {1, 0}, {0, 0}, {-1}, {math.MaxInt, math.MinInt}, upTo(64), make([]int, 70000)} {
			got, e := Rename(x.M, l, l, l)
			wantRefused(t, "Rename, "+x.Name, got, e, x.Want)
			got, e = Restrict(x.M, l)
			wantRefused(t, "Restrict, "+x.Name, got, e, x.Want)
		}
		for _, way := range []Way{Loop, Sink, 2, 255} {
			for _, out := range []int{0, 1, 16, -1, math.MinInt, math.MaxInt} {
				got, e := Fill(x.M, way, out)
				wantRefused(t, "Fill, "+x.Name, got, e, x.Want)
			}
		}
	}
}

// P11.7
func TestSeriesRespondsToTheResponse(t *testing.T) {
	hold := func(a, b, m api.Machine, w []int) {
		if want, got := seriesAnswer(t, a, b, w), answer(t, m, 0, w); !slices.Equal(got, want) {
			t.Errorf("Series(%v, %v) = %v answers %v with %v; want %v", a, b, m, w, got, want)
		}
	}
	tried := exactly(3)
	smallPairs(seriesFit, func(a, b api.Machine) {
		m, _ := Series(a, b)
		for _, w := range tried[a.Inputs] {
			hold(a, b, m, w)
		}
	})
	largePairs(seriesFit, func(a, b api.Machine) {
		if m, e := Series(a, b); e == api.OK {
			for _, w := range long(a.Inputs) {
				hold(a, b, m, w)
			}
		}
	})
}

// P11.7
func TestParallelTellsBothResponses(t *testing.T) {
	hold := func(a, b, m api.Machine, w []int) {
		if want, got := parallelAnswer(t, a, b, w), answer(t, m, 0, w); !slices.Equal(got, want) {
			t.Errorf("Parallel(%v, %v) = %v answers %v with %v; want %v", a, b, m, w, got, want)
		}
	}
	tried := exactly(3)
	smallPairs(parallelFit, func(a, b api.Machine) {
		m, _ := Parallel(a, b)
		for _, w := range tried[a.Inputs] {
			hold(a, b, m, w)
		}
	})
	largePairs(parallelFit, func(a, b api.Machine) {
		if m, e := Parallel(a, b); e == api.OK {
			for _, w := range long(a.Inputs) {
				hold(a, b, m, w)
			}
		}
	})
}

// P11.7
func TestUnitedStatesRespondAsBefore(t *testing.T) {
	hold := func(a, b, m api.Machine, w []int) {
		for s := range m.Rows {
			before, state := a, s
			if s >= len(a.Rows) {
				before, state = b, s-len(a.Rows)
			}
			if want, got := answer(t, before, state, w), answer(t, m, s, w); !slices.Equal(got, want) {
				t.Errorf("Unite(%v, %v) = %v answers %v from %d with %v; want %v", a, b, m, w, s, got, want)
			}
		}
	}
	tried := exactly(2)
	smallPairs(uniteFit, func(a, b api.Machine) {
		m, _ := Unite(a, b)
		for _, w := range tried[a.Inputs] {
			hold(a, b, m, w)
		}
	})
	largePairs(uniteFit, func(a, b api.Machine) {
		if m, e := Unite(a, b); e == api.OK {
			hold(a, b, m, long(a.Inputs)[5])
		}
	})
}

// P11.7
func TestTheOrderOfThreeInSeriesDoesNotMatter(t *testing.T) {
	// hold reports whether there are few enough states at each step.
	hold := func(a, b, c api.Machine) bool {
		first, e := Series(a, b)
		last, f := Series(b, c)
		if e != api.OK || f != api.OK {
			return false
		}
		left, e := Series(first, c)
		right, f := Series(a, last)
		if e != f || e == api.OK && !machines.Same(left, right) {
			t.Errorf("%v, %v and %v in series: %v, error %d, but in the other order %v, error %d", a, b, c, left, e, right, f)
		}
		return e == api.OK
	}
	for _, a := range slices.Concat(samples.All(2, 1, 2), samples.All(1, 2, 2), []api.Machine{exampleB()}) {
		for _, b := range slices.Concat(samples.All(1, 2, 2), every(8, samples.All(2, 2, 2)), []api.Machine{exampleB()}) {
			for _, c := range slices.Concat(samples.All(1, 2, 2), every(2, samples.All(2, 2, 1)), []api.Machine{exampleB(), knot()}) {
				if !hold(a, b, c) {
					t.Fatalf("%v, %v and %v cannot be put in series", a, b, c)
				}
			}
		}
	}
	count := 0
	for seed := range 200 {
		a, b, c := samples.Scattered(2+seed%5, 1+seed%4, seed), samples.Scattered(2+seed%3, 2, seed+1000), samples.Scattered(2+seed%4, 2, seed+2000)
		if hold(a, b, c) {
			count++
		}
	}
	if count < 150 {
		t.Errorf("only %d larger machines have been tried", count)
	}
	if !hold(turning(4, 1, 0), turning(16, 1, 0), turning(64, 1, 0)) || !hold(samples.Largest(), samples.Largest(), samples.LargestBut(none)) {
		t.Error("as many states as there may be are refused")
	}
	if hold(turning(5, 1, 0), turning(7, 1, 0), turning(8, 1, 0)) {
		t.Error("280 states are not refused")
	}
}

// Rules R1 and R4: arguments stay as they are, and results share memory neither with them nor with each other.
func TestArgumentsAreNeitherChangedNorShared(t *testing.T) {
	row := append(make([]api.Edge, 0, 8), api.Edge{To: 1, Out: 1}, api.Edge{To: 0, Out: 0})
	m := samples.Machine(2, 2, append(make([][]api.Edge, 0, 8), row, []api.Edge{{To: 1, Out: 0}, none}, row)...)
	complete := samples.Machine(2, 2, append(make([][]api.Edge, 0, 8), row, row)...)
	same, states := append(make([]int, 0, 8), 0, 1), append(make([]int, 0, 8), 0, 1, 2)
	before, completeBefore := samples.Clone(m), samples.Clone(complete)
	for _, x := range []struct {
		name string
		make func() (api.Machine, api.Errno)
	}{
		{"Series", func() (api.Machine, api.Errno) { return Series(complete, complete) }},
		{"Series, undefined", func() (api.Machine, api.Errno) { return Series(m, m) }},
		{"Parallel", func() (api.Machine, api.Errno) { return Parallel(complete, complete) }},
		{"Parallel, undefined", func() (api.Machine, api.Errno) { return Parallel(m, m) }},
		{"Rename", func() (api.Machine, api.Errno) { return Rename(m, same, same, states) }},
		{"Rename, complete", func() (api.Machine, api.Errno) { return Rename(complete, same, same, same) }},
		{"Fill, Loop", func() (api.Machine, api.Errno) { return Fill(m, Loop, 1) }},
		{"Fill, Sink", func() (api.Machine, api.Errno) { return Fill(m, Sink, 1) }},
		{"Fill, Loop, complete", func() (api.Machine, api.Errno) { return Fill(complete, Loop, 1) }},
		{"Fill, Sink, complete", func() (api.Machine, api.Errno) { return Fill(complete, Sink, 1) }},
		{"Restrict", func() (api.Machine, api.Errno) { return Restrict(m, same) }},
		{"Unite", func() (api.Machine, api.Errno) { return Unite(m, m) }},
		{"Unite, complete", func() (api.Machine, api.Errno) { return Unite(complete, complete) }},
	} {
		first, e := x.make()
		want := samples.Clone(first)
		if e != api.OK || len(first.Rows) < 2 {
			t.Fatalf("%s: %v, error %d", x.name, first, e)
		}
		// What is written into a result changes no other row of it, no argument, and no later result.
		for s := range first.Rows {
			for i := range first.Rows[s] {
				first.Rows[s][i] = api.Edge{To: 50 + s, Out: 99}
			}
		}
		if first.Rows[0][0].To != 50 {
			t.Errorf("%s: rows share their memory: %v", x.name, first)
		}
		first.Rows[0] = nil
		second, e := x.make()
		if !machines.Same(second, want) || e != api.OK {
			t.Errorf("%s: %v, error %d; want %v", x.name, second, e, want)
		}
		if !machines.Same(m, before) || !machines.Same(complete, completeBefore) {
			t.Errorf("%s: changed: %v, %v", x.name, m, complete)
		}
	}
	if row[:3][2] != (api.Edge{}) || m.Rows[:4][3] != nil || complete.Rows[:3][2] != nil {
		t.Errorf("written behind the arguments: %v, %v, %v", row[:8], m.Rows[:8], complete.Rows[:8])
	}
	if !slices.Equal(same[:8], []int{0, 1, 0, 0, 0, 0, 0, 0}) || !slices.Equal(states[:8], []int{0, 1, 2, 0, 0, 0, 0, 0}) {
		t.Errorf("changed: %v, %v", same[:8], states[:8])
	}
}
