package quotients

import (
	"math"
	"slices"
	"testing"

	"gauntlet/api"
	"gauntlet/machines"
	"gauntlet/samples"
	"gauntlet/splits"
	"gauntlet/walks"
	"gauntlet/words"
)

// none is the undefined edge.
var none = api.Edge{To: api.None, Out: api.None}

// example returns the machine of the chapter's examples.
func example() api.Machine {
	return samples.Machine(2, 2,
		[]api.Edge{{To: 1, Out: 0}, {To: 2, Out: 0}},
		[]api.Edge{{To: 3, Out: 0}, {To: 2, Out: 0}},
		[]api.Edge{{To: 2, Out: 0}, {To: 0, Out: 1}},
		[]api.Edge{{To: 1, Out: 0}, {To: 2, Out: 0}},
		[]api.Edge{{To: 4, Out: 0}, {To: 4, Out: 0}})
}

// exampleForm returns its minimal form.
func exampleForm() api.Machine {
	return samples.Machine(2, 2, []api.Edge{{To: 0, Out: 0}, {To: 1, Out: 0}}, []api.Edge{{To: 1, Out: 0}, {To: 0, Out: 1}})
}

// loop returns a machine with one state, one input and this output.
func loop(out int) api.Machine {
	return samples.Machine(1, 2, []api.Edge{{To: 0, Out: out}})
}

// largestForm returns the minimal form of the largest machine, in which all states are equivalent.
func largestForm() api.Machine {
	row := make([]api.Edge, 16)
	for i := range row {
		row[i] = api.Edge{To: 0, Out: i}
	}
	return samples.Machine(16, 16, row)
}

// remainders returns the remainders of the numbers from 0 to n - 1.
func remainders(n, divisor int) []int {
	l := make([]int, n)
	for i := range l {
		l[i] = i % divisor
	}
	return l
}

// scattered returns machines whose edges follow no pattern, all of them with few enough states to try all words.
func scattered() []api.Machine {
	var l []api.Machine
	for seed := range 30 {
		l = append(l, samples.Scattered(5+seed%3, 1+seed%2, seed), samples.Scattered(4, 3, seed))
	}
	return l
}

// large returns machines with too many states to try all words.
func large() []api.Machine {
	l := append(samples.Large(), samples.Scattered(64, 1, 1), samples.Scattered(64, 2, 2), samples.Scattered(64, 16, 3))
	for seed := range 20 {
		l = append(l, samples.Scattered(10+seed, 1+seed%3, seed))
	}
	return l
}

// answers returns the responses of a state to all words of a length, one after the other. Those to shorter words are the beginnings of these.
func answers(t *testing.T, m api.Machine, s, length int) []int {
	t.Helper()
	var all []int
	for w := range words.All(m.Inputs, length) {
		if len(w) == length {
			response, e := machines.Run(m, s, w)
			if e != api.OK {
				t.Fatalf("%v from %d with %v: error %d", m, s, w, e)
			}
			all = append(all, response...)
		}
	}
	return all
}

// told returns the responses of each state to words that are long enough to tell apart any two states of the machine that can be told apart.
func told(t *testing.T, m api.Machine) [][]int {
	t.Helper()
	all := make([][]int, len(m.Rows))
	for s := range m.Rows {
		all[s] = answers(t, m, s, len(m.Rows))
	}
	return all
}

// formOf returns by the definition the minimal form, and the state of it for each state that is reached.
func formOf(t *testing.T, m api.Machine) (api.Machine, []int) {
	t.Helper()
	responses := told(t, m)
	f := slices.Repeat([]int{api.None}, len(m.Rows))
	var firsts []int
	// Words are tried in their order, so states of the form are met in the order of its access words.
	for w := range words.All(m.Inputs, len(m.Rows)-1) {
		s, e := machines.After(m, 0, w)
		if e != api.OK {
			t.Fatalf("%v after %v: error %d", m, w, e)
		}
		if s == api.None {
			continue
		}
		f[s] = slices.IndexFunc(firsts, func(first int) bool { return slices.Equal(responses[first], responses[s]) })
		if f[s] < 0 {
			f[s] = len(firsts)
			firsts = append(firsts, s)
		}
	}
	form := samples.Machine(m.Inputs, m.Outputs)
	for _, s := range firsts {
		row := slices.Clone(m.Rows[s])
		for i, x := range row {
			if x != none {
				row[i].To = f[x.To]
			}
		}
		form.Rows = append(form.Rows, row)
	}
	return form, f
}

// homomorphicOf reports by the definition whether a list is a homomorphism.
func homomorphicOf(a, b api.Machine, f []int) bool {
	for s, row := range a.Rows {
		for i, x := range row {
			y := b.Rows[f[s]][i]
			if x == none && y == none {
				continue
			}
			if x == none || y == none || x.Out != y.Out || f[x.To] != y.To {
				return false
			}
		}
	}
	return f[0] == 0
}

// lists returns all lists of so many numbers that are less than a bound.
func lists(length, below int) [][]int {
	return slices.DeleteFunc(slices.Collect(words.All(below, length)), func(l []int) bool { return len(l) != length })
}

// P9.1
func TestMinimalAndMap(t *testing.T) {
	ring := samples.Machine(1, 2, []api.Edge{{To: 1, Out: 0}}, []api.Edge{{To: 2, Out: 1}}, []api.Edge{{To: 3, Out: 0}}, []api.Edge{{To: 4, Out: 1}}, []api.Edge{{To: 5, Out: 0}}, []api.Edge{{To: 0, Out: 1}})
	toggle := samples.Machine(1, 2, []api.Edge{{To: 1, Out: 0}}, []api.Edge{{To: 0, Out: 1}})
	changed := samples.LargestBut(api.Edge{To: 15, Out: 14})
	for _, x := range []struct {
		name    string
		m, form api.Machine
		states  []int
	}{
		{"example", example(), exampleForm(), []int{0, 0, 1, 0, -1}},
		{"example, its form", exampleForm(), exampleForm(), []int{0, 1}},
		{"ring of six", ring, toggle, []int{0, 1, 0, 1, 0, 1}},
		{"the toggle", toggle, toggle, []int{0, 1}},
		{"one state", loop(1), loop(1), []int{0}},
		{"one state without edges", samples.Machine(1, 1, []api.Edge{none}), samples.Machine(1, 1, []api.Edge{none}), []int{0}},
		{"nothing defined", samples.Machine(1, 1, []api.Edge{none}, []api.Edge{none}), samples.Machine(1, 1, []api.Edge{none}), []int{0, -1}},
		{"outputs that no edge has", samples.Machine(1, 16, []api.Edge{{To: 1, Out: 3}}, []api.Edge{{To: 0, Out: 3}}), samples.Machine(1, 16, []api.Edge{{To: 0, Out: 3}}), []int{0, 0}},
		{"equivalent, but not reached", samples.Machine(1, 2, []api.Edge{{To: 0}}, []api.Edge{{To: 0}}, []api.Edge{{To: 2, Out: 1}}), loop(0), []int{0, -1, -1}},
		{"one of two equivalent states is not reached", samples.Machine(1, 2, []api.Edge{{To: 2, Out: 0}}, []api.Edge{{To: 0, Out: 1}}, []api.Edge{{To: 0, Out: 1}}), toggle, []int{0, -1, 1}},
		{"numbered by access words", samples.Machine(2, 2, []api.Edge{{To: 2, Out: 0}, {To: 1, Out: 0}}, []api.Edge{{To: 0, Out: 1}, {To: 0, Out: 0}}, []api.Edge{{To: 0, Out: 0}, {To: 0, Out: 1}}),
			samples.Machine(2, 2, []api.Edge{{To: 1, Out: 0}, {To: 2, Out: 0}}, []api.Edge{{To: 0, Out: 0}, {To: 0, Out: 1}}, []api.Edge{{To: 0, Out: 1}, {To: 0, Out: 0}}), []int{0, 2, 1}},
		{"a class comes with the first of its states", samples.Machine(2, 2, []api.Edge{{To: 3, Out: 0}, {To: 2, Out: 0}}, []api.Edge{{To: 1, Out: 1}, {To: 1, Out: 1}}, []api.Edge{{To: 1, Out: 0}, {To: 1, Out: 1}}, []api.Edge{{To: 3, Out: 1}, {To: 3, Out: 1}}),
			samples.Machine(2, 2, []api.Edge{{To: 1, Out: 0}, {To: 2, Out: 0}}, []api.Edge{{To: 1, Out: 1}, {To: 1, Out: 1}}, []api.Edge{{To: 1, Out: 0}, {To: 1, Out: 1}}), []int{0, 1, 2, 1}},
		{"undefined is not an output", samples.Machine(1, 1, []api.Edge{{To: 1}}, []api.Edge{{To: 2}}, []api.Edge{none}), samples.Machine(1, 1, []api.Edge{{To: 1}}, []api.Edge{{To: 2}}, []api.Edge{none}), []int{0, 1, 2}},
		{"undefined stays undefined", samples.Machine(2, 1, []api.Edge{{To: 1}, {To: 2}}, []api.Edge{none, {To: 1}}, []api.Edge{none, {To: 2}}), samples.Machine(2, 1, []api.Edge{{To: 1}, {To: 1}}, []api.Edge{none, {To: 1}}), []int{0, 1, 1}},
		{"all edges of the initial state undefined", samples.Machine(2, 2, []api.Edge{none, none}, []api.Edge{{To: 0, Out: 1}, none}), samples.Machine(2, 2, []api.Edge{none, none}), []int{0, -1}},
		{"chain", samples.Chain(64), samples.Chain(64), remainders(64, 64)},
		{"ring", samples.Ring(64), samples.Ring(16), remainders(64, 16)},
		{"ring of 63", samples.Ring(63), samples.Ring(63), remainders(63, 63)},
		{"largest", samples.Largest(), largestForm(), make([]int, 64)},
		{"largest, an edge less", samples.LargestBut(none), samples.LargestBut(none), remainders(64, 64)},
		{"largest, another output", changed, changed, remainders(64, 64)},
	} {
		form, e := Minimal(x.m)
		if !machines.Same(form, x.form) || e != api.OK || !samples.Full(form) {
			t.Errorf("Minimal, %s: %v, error %d; want %v", x.name, form, e, x.form)
		}
		states, e := Map(x.m)
		if !slices.Equal(states, x.states) || e != api.OK || cap(states) != len(states) {
			t.Errorf("Map, %s: %v, error %d, capacity %d; want %v", x.name, states, e, cap(states), x.states)
		}
	}
}

// P9.1
func TestMinimalAndMapFollowTheDefinition(t *testing.T) {
	for _, m := range slices.Concat(samples.Small(), samples.All(3, 1, 3), scattered(), []api.Machine{example(), samples.Copied(exampleForm(), 3)}) {
		want, f := formOf(t, m)
		form, e := Minimal(m)
		if !machines.Same(form, want) || e != api.OK || !samples.Full(form) {
			t.Errorf("Minimal(%v) = %v, error %d; want %v", m, form, e, want)
		}
		states, e := Map(m)
		if !slices.Equal(states, f) || e != api.OK {
			t.Errorf("Map(%v) = %v, error %d; want %v", m, states, e, f)
		}
	}
}

// P9.2
func TestIsMinimalAndProper(t *testing.T) {
	for _, x := range []struct {
		name string
		m    api.Machine
		is   bool
		want api.Errno
	}{
		{"example", example(), false, api.ErrReach},
		{"example, its form", exampleForm(), true, api.OK},
		{"one state", loop(0), true, api.OK},
		{"one state without edges", samples.Machine(1, 1, []api.Edge{none}), true, api.ErrPartial},
		{"one edge undefined", samples.Machine(2, 1, []api.Edge{{}, none}), true, api.ErrPartial},
		{"the last edge undefined", samples.Machine(1, 1, []api.Edge{{To: 1}}, []api.Edge{none}), true, api.ErrPartial},
		{"two equivalent states", samples.Machine(1, 2, []api.Edge{{To: 1, Out: 1}}, []api.Edge{{To: 0, Out: 1}}), false, api.ErrSame},
		{"the last two states equivalent", samples.Machine(2, 2, []api.Edge{{To: 1}, {To: 2}}, []api.Edge{{To: 0, Out: 1}, {To: 1}}, []api.Edge{{To: 0, Out: 1}, {To: 2}}), false, api.ErrSame},
		{"not reached", samples.Machine(1, 2, []api.Edge{{To: 0}}, []api.Edge{{To: 0, Out: 1}}), false, api.ErrReach},
		{"not reached and equivalent", samples.Machine(1, 2, []api.Edge{{To: 0}}, []api.Edge{{To: 0}}), false, api.ErrReach},
		{"not reached, and equivalent to each other", samples.Machine(1, 2, []api.Edge{{To: 0}}, []api.Edge{{To: 1, Out: 1}}, []api.Edge{{To: 2, Out: 1}}), false, api.ErrReach},
		{"equivalent and undefined", samples.Machine(2, 2, []api.Edge{{To: 1}, none}, []api.Edge{{To: 0}, none}), false, api.ErrPartial},
		{"not reached and undefined", samples.Machine(1, 2, []api.Edge{{To: 0}}, []api.Edge{none}), false, api.ErrPartial},
		{"not reached because of an undefined edge", samples.Machine(1, 2, []api.Edge{none}, []api.Edge{{To: 0}}), false, api.ErrPartial},
		{"not reached, equivalent and undefined", samples.Machine(1, 2, []api.Edge{none}, []api.Edge{none}), false, api.ErrPartial},
		{"not numbered by access words", samples.Machine(2, 2, []api.Edge{{To: 2}, {To: 1}}, []api.Edge{{To: 0, Out: 1}, {To: 0}}, []api.Edge{{To: 0}, {To: 0, Out: 1}}), true, api.OK},
		{"chain", samples.Chain(64), true, api.ErrPartial},
		{"ring", samples.Ring(64), false, api.ErrSame},
		{"ring of 63", samples.Ring(63), true, api.OK},
		{"largest", samples.Largest(), false, api.ErrSame},
		{"largest, an edge less", samples.LargestBut(none), true, api.ErrPartial},
		{"largest, another output", samples.LargestBut(api.Edge{To: 15, Out: 14}), true, api.OK},
	} {
		if is, e := IsMinimal(x.m); is != x.is || e != api.OK {
			t.Errorf("IsMinimal, %s: %v, error %d; want %v", x.name, is, e, x.is)
		}
		if e := Proper(x.m); e != x.want {
			t.Errorf("Proper, %s: %d; want %d", x.name, e, x.want)
		}
	}
}

// apartOf reports by the definition whether no two states are equivalent.
func apartOf(t *testing.T, m api.Machine) bool {
	t.Helper()
	responses := told(t, m)
	for s := range responses {
		for u := range s {
			if slices.Equal(responses[s], responses[u]) {
				return false
			}
		}
	}
	return true
}

// P9.2
func TestIsMinimalAndProperFollowTheDefinition(t *testing.T) {
	for _, m := range slices.Concat(samples.Small(), samples.All(3, 1, 3), scattered(), []api.Machine{example(), exampleForm()}) {
		complete, _ := machines.Complete(m)
		connected, _ := machines.Connected(m)
		apart := apartOf(t, m)
		if is, e := IsMinimal(m); is != (connected && apart) || e != api.OK {
			t.Errorf("IsMinimal(%v) = %v, error %d; connected is %v, no two states equivalent is %v", m, is, e, connected, apart)
		}
		want := api.OK
		switch {
		case !complete:
			want = api.ErrPartial
		case !connected:
			want = api.ErrReach
		case !apart:
			want = api.ErrSame
		}
		if e := Proper(m); e != want {
			t.Errorf("Proper(%v) = %d; want %d", m, e, want)
		}
	}
}

// P9.3
func TestHomomorphic(t *testing.T) {
	twice := samples.Machine(1, 2, []api.Edge{{To: 0}}, []api.Edge{{To: 1}})
	stuck := samples.Machine(1, 2, []api.Edge{none})
	other := samples.LargestBut(api.Edge{To: 15, Out: 14})
	for _, x := range []struct {
		name string
		a, b api.Machine
		f    []int
		want bool
	}{
		{"example", example(), exampleForm(), []int{0, 0, 1, 0, 0}, false},
		{"example, the other state", example(), exampleForm(), []int{0, 0, 1, 0, 1}, false},
		{"example, its form", exampleForm(), exampleForm(), []int{0, 1}, true},
		{"example, states that are exchanged", exampleForm(), exampleForm(), []int{1, 0}, false},
		{"example, all to one state", exampleForm(), exampleForm(), []int{0, 0}, false},
		{"example, itself", example(), example(), []int{0, 1, 2, 3, 4}, true},
		{"example, an equivalent state for another one", example(), example(), []int{0, 1, 2, 0, 4}, false},
		{"only the initial state is another one", loop(0), twice, []int{1}, false},
		{"a state that is no image", loop(0), twice, []int{0}, true},
		{"states that are not reached, to the same state", twice, loop(0), []int{0, 0}, true},
		{"states that are not reached, to themselves", twice, twice, []int{0, 1}, true},
		{"states that are not reached, to equivalent ones", twice, twice, []int{0, 0}, true},
		{"a state that is not reached leads elsewhere", samples.Machine(1, 2, []api.Edge{{To: 0}}, []api.Edge{{To: 0}}), twice, []int{0, 1}, false},
		{"another output", loop(0), loop(1), []int{0}, false},
		{"another output and undefined", loop(0), stuck, []int{0}, false},
		{"undefined and defined", stuck, loop(0), []int{0}, false},
		{"both undefined", stuck, stuck, []int{0}, true},
		{"more outputs", loop(1), samples.Machine(1, 16, []api.Edge{{To: 0, Out: 1}}), []int{0}, true},
		{"fewer outputs", samples.Machine(1, 16, []api.Edge{{To: 0, Out: 1}}), loop(1), []int{0}, true},
		{"the last edge", samples.Machine(2, 2, []api.Edge{{}, {}}), samples.Machine(2, 2, []api.Edge{{}, {Out: 1}}), []int{0}, false},
		{"ring, to a shorter one", samples.Ring(64), samples.Ring(32), remainders(64, 32), true},
		{"ring, to the shortest one", samples.Ring(64), samples.Ring(16), remainders(64, 16), true},
		{"ring, to a longer one", samples.Ring(32), samples.Ring(64), remainders(32, 32), false},
		{"ring, turned", samples.Ring(64), samples.Ring(64), append(remainders(64, 64)[16:], remainders(16, 16)...), false},
		{"chain", samples.Chain(64), samples.Chain(64), remainders(64, 64), true},
		{"chain, to a shorter one", samples.Chain(64), samples.Chain(63), remainders(64, 63), false},
		{"largest", samples.Largest(), largestForm(), make([]int, 64), true},
		{"largest, remainders", samples.Largest(), samples.Largest(), remainders(64, 64), true},
		{"largest, another output", other, samples.Largest(), remainders(64, 64), false},
		{"largest, an edge less", samples.Largest(), samples.LargestBut(none), remainders(64, 64), false},
	} {
		if got, e := Homomorphic(x.a, x.b, x.f); got != x.want || e != api.OK {
			t.Errorf("%s: %v, error %d; want %v", x.name, got, e, x.want)
		}
	}
}

// P9.3
func TestHomomorphicRefuses(t *testing.T) {
	a, b := example(), exampleForm()
	for _, x := range []struct {
		name string
		a, b api.Machine
		f    []int
		want api.Errno
	}{
		{"too few elements", a, b, []int{0, 0, 1}, api.ErrCount},
		{"one element too few", a, b, []int{0, 0, 1, 0}, api.ErrCount},
		{"one element too many", a, b, []int{0, 0, 1, 0, 0, 0}, api.ErrCount},
		{"as many as the second machine has states", a, b, []int{0, 1}, api.ErrCount},
		{"nil", a, b, nil, api.ErrCount},
		{"empty", a, b, []int{}, api.ErrCount},
		{"far too many elements", a, b, make([]int, 70000), api.ErrCount},
		{"too few before no state", a, b, []int{0, 2}, api.ErrCount},
		{"too many before no state", a, b, []int{-1, 0, 1, 0, 0, 2}, api.ErrCount},
		{"too great", a, b, []int{2, 0, 1, 0, 0}, api.ErrArg},
		{"too great at the end", a, b, []int{0, 0, 1, 0, 2}, api.ErrArg},
		{"a state of the first machine", a, b, []int{0, 0, 4, 0, 0}, api.ErrArg},
		{"negative", a, b, []int{0, 0, -1, 0, 0}, api.ErrArg},
		{"none for a state that is not reached, as Map has it", a, b, []int{0, 0, 1, 0, -1}, api.ErrArg},
		{"no state behind what is no homomorphism", a, b, []int{1, 1, 1, 1, 2}, api.ErrArg},
		{"greatest", a, b, []int{0, 0, 1, 0, math.MaxInt}, api.ErrArg},
		{"least", a, b, []int{math.MinInt, 0, 1, 0, 0}, api.ErrArg},
		{"no state of the largest machine", samples.Largest(), samples.Largest(), append(remainders(63, 63), 64), api.ErrArg},
		{"another number of inputs", loop(0), b, []int{0}, api.ErrAlpha},
		{"another number of inputs, the other way", b, loop(0), []int{0, 0}, api.ErrAlpha},
		{"another number of inputs before the count", a, loop(0), nil, api.ErrAlpha},
		{"another number of inputs before no state", loop(0), b, []int{2}, api.ErrAlpha},
		{"another number of inputs, largest", samples.Largest(), samples.Ring(64), remainders(64, 64), api.ErrAlpha},
	} {
		if got, e := Homomorphic(x.a, x.b, x.f); got || e != x.want {
			t.Errorf("%s: %v, error %d; want error %d", x.name, got, e, x.want)
		}
	}
}

// mapped calls a function for any two of some machines with as many inputs, and all lists with a state of the second one for each state of the first one.
func mapped(l []api.Machine, call func(a, b api.Machine, f []int)) {
	for _, a := range l {
		for _, b := range l {
			if a.Inputs == b.Inputs {
				for _, f := range lists(len(a.Rows), len(b.Rows)) {
					call(a, b, f)
				}
			}
		}
	}
}

// P9.3
func TestHomomorphicFollowsTheDefinition(t *testing.T) {
	l := slices.Concat(samples.All(1, 1, 2), samples.All(2, 1, 2), samples.All(3, 1, 1), samples.All(1, 2, 1), samples.All(2, 2, 1))
	mapped(l, func(a, b api.Machine, f []int) {
		if got, e := Homomorphic(a, b, f); got != homomorphicOf(a, b, f) || e != api.OK {
			t.Errorf("Homomorphic(%v, %v, %v) = %v, error %d", a, b, f, got, e)
		}
	})
}

// P9.1, P9.2, P9.3
func TestTheMachineIsCheckedFirst(t *testing.T) {
	for _, x := range samples.Invalid() {
		if form, e := Minimal(x.M); !samples.IsZero(form) || e != x.Want {
			t.Errorf("Minimal, %s: %v, error %d; want error %d", x.Name, form, e, x.Want)
		}
		if states, e := Map(x.M); len(states) != 0 || e != x.Want {
			t.Errorf("Map, %s: %v, error %d; want error %d", x.Name, states, e, x.Want)
		}
		if is, e := IsMinimal(x.M); is || e != x.Want {
			t.Errorf("IsMinimal, %s: %v, error %d; want error %d", x.Name, is, e, x.Want)
		}
		if e := Proper(x.M); e != x.Want {
			t.Errorf("Proper, %s: %d; want %d", x.Name, e, x.Want)
		}
		for _, f := range [][]int{nil, {0}, {0, 1}, {-1}, {0, math.MaxInt}, make([]int, 70000)} {
			for _, m := range []api.Machine{loop(0), exampleForm(), samples.Largest()} {
				if is, e := Homomorphic(x.M, m, f); is || e != x.Want {
					t.Errorf("Homomorphic, %s first: %v, error %d; want error %d", x.Name, is, e, x.Want)
				}
				if is, e := Homomorphic(m, x.M, f); is || e != x.Want {
					t.Errorf("Homomorphic, %s second: %v, error %d; want error %d", x.Name, is, e, x.Want)
				}
			}
		}
		for _, y := range samples.Invalid() {
			if is, e := Homomorphic(x.M, y.M, nil); is || e != x.Want {
				t.Errorf("Homomorphic, %s before %s: %v, error %d; want error %d", x.Name, y.Name, is, e, x.Want)
			}
		}
	}
}

// P9.4
func TestTheMinimalFormHasEqualResponses(t *testing.T) {
	for _, m := range append(samples.Small(), example()) {
		form, e := Minimal(m)
		if e != api.OK || !slices.Equal(answers(t, m, 0, 6), answers(t, form, 0, 6)) {
			t.Errorf("%v has other responses than its minimal form %v; error %d", m, form, e)
		}
	}
	for _, m := range large() {
		form, e := Minimal(m)
		if e != api.OK {
			t.Fatalf("Minimal(%v): error %d", m, e)
		}
		for step := range 40 {
			w := make([]int, 256)
			for n := range w {
				w[n] = (n*step + n*n/(step+1)) % m.Inputs
			}
			want, _ := machines.Run(m, 0, w)
			if got, e := machines.Run(form, 0, w); !slices.Equal(got, want) || e != api.OK {
				t.Errorf("%v answers %v with %v, its minimal form with %v, error %d", m, w, want, got, e)
			}
		}
	}
}

// P9.2, P9.4
func TestTheMinimalFormIsMinimal(t *testing.T) {
	for _, m := range slices.Concat(samples.Small(), scattered(), large(), []api.Machine{example()}) {
		form, e := Minimal(m)
		if e != api.OK || form.Inputs != m.Inputs || form.Outputs != m.Outputs {
			t.Fatalf("Minimal(%v) = %v, error %d", m, form, e)
		}
		if is, e := walks.IsCanonical(form); !is || e != api.OK {
			t.Errorf("%v has the minimal form %v, which is not canonical; error %d", m, form, e)
		}
		table, e := splits.Table(form)
		if e != api.OK || slices.ContainsFunc(table, func(p splits.Pair) bool { return !p.Apart }) {
			t.Errorf("%v has the minimal form %v, which has equivalent states; error %d", m, form, e)
		}
		if is, e := IsMinimal(form); !is || e != api.OK {
			t.Errorf("%v has the minimal form %v, which is not minimal; error %d", m, form, e)
		}
		if again, e := Minimal(form); !machines.Same(again, form) || e != api.OK {
			t.Errorf("%v has the minimal form %v, and that has %v; error %d", m, form, again, e)
		}
	}
}

// P9.4
func TestEqualResponsesHaveOneMinimalForm(t *testing.T) {
	for _, l := range [][]api.Machine{
		slices.Concat(samples.All(1, 1, 3), samples.All(2, 1, 3), samples.All(3, 1, 2)),
		slices.Concat(samples.All(1, 2, 2), samples.All(2, 2, 2), samples.All(3, 2, 1)),
	} {
		forms, fewest := map[string]api.Machine{}, map[string]int{}
		for _, m := range l {
			form, e := Minimal(m)
			if e != api.OK {
				t.Fatalf("Minimal(%v): error %d", m, e)
			}
			// Words of five symbols tell apart what two machines with at most three states each do.
			key := words.Text(answers(t, m, 0, 5))
			known, met := forms[key]
			if !met {
				known, fewest[key] = form, len(m.Rows)
				forms[key] = known
			}
			if !slices.EqualFunc(form.Rows, known.Rows, slices.Equal) {
				t.Errorf("%v has the minimal form %v, but a machine with equal responses has %v", m, form, known)
			}
			fewest[key] = min(fewest[key], len(m.Rows))
		}
		for key, form := range forms {
			if len(form.Rows) != fewest[key] {
				t.Errorf("%v is a minimal form, but a machine with equal responses has %d states", form, fewest[key])
			}
		}
	}
}

// P9.1, P9.4
func TestCopiesOfStatesChangeNothing(t *testing.T) {
	for _, m := range append(scattered(), samples.Chain(21), samples.Ring(21), example(), exampleForm(), loop(1)) {
		want, _ := Minimal(m)
		f, _ := Map(m)
		for copies := 1; copies*len(m.Rows) <= api.MaxStates; copies++ {
			other := samples.Copied(m, copies)
			form, e := Minimal(other)
			if !machines.Same(form, want) || e != api.OK {
				t.Errorf("%v with each state %d times has the minimal form %v, error %d; want %v", m, copies, form, e, want)
			}
			states, e := Map(other)
			reached, _ := walks.Reach(other)
			if e != api.OK || len(states) != len(other.Rows) {
				t.Fatalf("Map(%v) = %v, error %d", other, states, e)
			}
			for s, state := range states {
				expected := api.None
				if slices.Contains(reached, s) {
					expected = f[s%len(m.Rows)]
				}
				if state != expected {
					t.Errorf("%v with each state %d times: %d for %d; want %d", m, copies, state, s, expected)
				}
			}
		}
	}
}

// P9.4
func TestMapIsAHomomorphism(t *testing.T) {
	for _, m := range slices.Concat(samples.Small(), scattered(), large(), []api.Machine{exampleForm()}) {
		m, _, _ = walks.Trim(m)
		form, _ := Minimal(m)
		f, e := Map(m)
		if is, g := Homomorphic(m, form, f); !is || e != api.OK || g != api.OK {
			t.Errorf("Map(%v) = %v is no homomorphism to %v; errors %d, %d", m, f, form, e, g)
		}
	}
}

// P9.4
func TestMapIsTheOnlyHomomorphismToTheMinimalForm(t *testing.T) {
	for _, m := range samples.Small() {
		if connected, _ := machines.Connected(m); !connected {
			continue
		}
		form, _ := Minimal(m)
		states, _ := Map(m)
		for _, f := range lists(len(m.Rows), len(form.Rows)) {
			if is, e := Homomorphic(m, form, f); is != slices.Equal(f, states) || e != api.OK {
				t.Errorf("Homomorphic(%v, %v, %v) = %v, error %d, but Map is %v", m, form, f, is, e, states)
			}
		}
	}
}

// P9.4
func TestHomomorphismsKeepResponses(t *testing.T) {
	l := slices.Concat(samples.All(1, 1, 2), samples.All(2, 1, 2), samples.All(3, 1, 1), samples.All(1, 2, 1), samples.All(2, 2, 1))
	mapped(l, func(a, b api.Machine, f []int) {
		if is, _ := Homomorphic(a, b, f); !is {
			return
		}
		for s, state := range f {
			if want, got := answers(t, a, s, 5), answers(t, b, state, 5); !slices.Equal(got, want) {
				t.Errorf("%v is a homomorphism from %v to %v, but the responses of %d are %v, and those of its image %v", f, a, b, s, want, got)
			}
		}
	})
}

// Rules R1 and R4: arguments stay as they are, and results share memory neither with them nor with each other.
func TestArgumentsAreNeitherChangedNorShared(t *testing.T) {
	row := append(make([]api.Edge, 0, 8), api.Edge{To: 1, Out: 1}, none)
	m := samples.Machine(2, 2, append(make([][]api.Edge, 0, 8), row, []api.Edge{{To: 3, Out: 0}, none}, row, row)...)
	f := append(make([]int, 0, 8), 0, 1, 0, 0)
	before, want := samples.Clone(m), samples.Machine(2, 2, []api.Edge{{To: 1, Out: 1}, none}, []api.Edge{{To: 0, Out: 0}, none})
	for range 2 {
		form, _ := Minimal(m)
		own, _ := Minimal(form)
		states, _ := Map(m)
		is, _ := Homomorphic(m, form, f)
		if !machines.Same(form, want) || !machines.Same(own, want) || !slices.Equal(states, []int{0, 1, -1, 0}) || !is {
			t.Errorf("%v, %v, %v, %v", form, own, states, is)
		}
		IsMinimal(m)
		Proper(m)
		// What is written into a result changes no other row of it, no argument, and no later result.
		for s := range form.Rows {
			form.Rows[s][0] = api.Edge{To: 50 + s, Out: 99}
		}
		if form.Rows[0][0].To != 50 || !machines.Same(own, want) {
			t.Errorf("rows share their memory: %v, %v", form, own)
		}
		form.Rows[0], states[0] = nil, 99
	}
	if !machines.Same(m, before) || row[:3][2] != (api.Edge{}) || m.Rows[:5][4] != nil || !slices.Equal(f[:8], []int{0, 1, 0, 0, 0, 0, 0, 0}) {
		t.Errorf("changed: %v, %v", m, f)
	}
}
