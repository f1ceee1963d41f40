package equals

import (
	"math"
	"slices"
	"testing"

	"gauntlet/api"
	"gauntlet/machines"
	"gauntlet/quotients"
	"gauntlet/samples"
	"gauntlet/splits"
	"gauntlet/words"
)

// none is the undefined edge.
var none = api.Edge{To: api.None, Out: api.None}

// exampleA returns the machine a of the chapter's examples.
func exampleA() api.Machine {
	return samples.Machine(1, 2, []api.Edge{{To: 1, Out: 0}}, []api.Edge{{To: 2, Out: 0}}, []api.Edge{{To: 0, Out: 1}})
}

// exampleB returns the machine b of the chapter's examples.
func exampleB() api.Machine {
	return samples.Machine(1, 2, []api.Edge{{To: 1, Out: 0}}, []api.Edge{{To: 2, Out: 0}}, []api.Edge{{To: 3, Out: 1}}, []api.Edge{{To: 1, Out: 0}})
}

// exampleC returns the machine c of the chapter's examples.
func exampleC() api.Machine {
	return samples.Changed(exampleA(), func(m *api.Machine) { m.Rows[2][0] = api.Edge{To: 2, Out: 0} })
}

// toggle returns a machine that answers 0 and 1 in turn.
func toggle() api.Machine {
	return samples.Machine(1, 2, []api.Edge{{To: 1, Out: 0}}, []api.Edge{{To: 0, Out: 1}})
}

// loop returns a machine with one state and one input that always answers the same.
func loop(out int) api.Machine {
	return samples.Machine(1, 2, []api.Edge{{To: 0, Out: out}})
}

// wheel returns a machine with one input that goes round its states and always answers 0, but in one of them 1; in none of them if there is no such state.
func wheel(states, marked int) api.Machine {
	m := samples.Machine(1, 2)
	for s := range states {
		m.Rows = append(m.Rows, []api.Edge{{To: (s + 1) % states}})
	}
	if marked >= 0 {
		m.Rows[marked][0].Out = 1
	}
	return m
}

// twoWheels returns a machine with two inputs that goes round its states with the first one, and stays where it is with the second one.
func twoWheels(states int) api.Machine {
	m := samples.Machine(2, 1)
	for s := range states {
		m.Rows = append(m.Rows, []api.Edge{{To: (s + 1) % states}, {To: s}})
	}
	return m
}

// otherWheels is the same with the inputs exchanged.
func otherWheels(states int) api.Machine {
	m := twoWheels(states)
	for _, row := range m.Rows {
		row[0], row[1] = row[1], row[0]
	}
	return m
}

// forks returns a machine with three inputs that answers 1 only after 1 0 with the input 2, and after 2 1 with the inputs 0 and 2.
func forks() api.Machine {
	return samples.Machine(3, 2,
		[]api.Edge{{To: 0, Out: 0}, {To: 1, Out: 0}, {To: 2, Out: 0}},
		[]api.Edge{{To: 3, Out: 0}, {To: 0, Out: 0}, {To: 0, Out: 0}},
		[]api.Edge{{To: 0, Out: 0}, {To: 4, Out: 0}, {To: 0, Out: 0}},
		[]api.Edge{{To: 0, Out: 0}, {To: 0, Out: 0}, {To: 0, Out: 1}},
		[]api.Edge{{To: 0, Out: 1}, {To: 0, Out: 0}, {To: 0, Out: 1}})
}

// zeros returns a word with so many symbols, all of them 0.
func zeros(symbols int) []int {
	return make([]int, symbols)
}

// product returns all pairs of so many states, ascending.
func product(a, b int) [][2]int {
	l := make([][2]int, 0, a*b)
	for s := range a {
		for u := range b {
			l = append(l, [2]int{s, u})
		}
	}
	return l
}

// alongside returns the pairs of equal numbers.
func alongside(states int) [][2]int {
	l := make([][2]int, states)
	for s := range l {
		l[s] = [2]int{s, s}
	}
	return l
}

// after returns by the definition the response of the initial state to a word, and the state after it.
func after(m api.Machine, w []int) ([]int, int) {
	response, s := slices.Repeat([]int{api.None}, len(w)), 0
	for n, i := range w {
		x := m.Rows[s][i]
		if x == none {
			return response, api.None
		}
		response[n], s = x.Out, x.To
	}
	return response, s
}

// differOf returns by the definition the least word of at most so many symbols on which two machines differ.
func differOf(a, b api.Machine, most int) ([]int, bool) {
	for w := range words.All(a.Inputs, most) {
		x, _ := after(a, w)
		y, _ := after(b, w)
		if !slices.Equal(x, y) {
			return w, true
		}
	}
	return nil, false
}

// relateOf returns by the definition the pairs of states that two machines are in after the same words.
func relateOf(a, b api.Machine) [][2]int {
	met := map[[2]int]bool{}
	// A least word to a pair leads to no pair twice, so it has fewer symbols than there are pairs.
	for w := range words.All(a.Inputs, len(a.Rows)*len(b.Rows)-1) {
		_, s := after(a, w)
		_, u := after(b, w)
		met[[2]int{s, u}] = true
	}
	return slices.DeleteFunc(product(len(a.Rows), len(b.Rows)), func(p [2]int) bool { return !met[p] })
}

// certifiesOf reports by the definition whether a relation certifies that two machines are equal.
func certifiesOf(a, b api.Machine, r [][2]int) bool {
	for _, p := range r {
		for i := range a.Inputs {
			x, y := a.Rows[p[0]][i], b.Rows[p[1]][i]
			if x == none && y == none {
				continue
			}
			if x == none || y == none || x.Out != y.Out || !slices.Contains(r, [2]int{x.To, y.To}) {
				return false
			}
		}
	}
	return slices.Contains(r, [2]int{0, 0})
}

// joined returns a machine with the states of two machines, those of the second one behind those of the first one.
func joined(a, b api.Machine) api.Machine {
	m := samples.Clone(a)
	m.Outputs = max(a.Outputs, b.Outputs)
	for _, row := range samples.Clone(b).Rows {
		for i := range row {
			if row[i] != none {
				row[i].To += len(a.Rows)
			}
		}
		m.Rows = append(m.Rows, row)
	}
	return m
}

// smallFamilies returns lists of machines, of which all with as many inputs can be held against each other by the definitions.
func smallFamilies() [][]api.Machine {
	return [][]api.Machine{
		slices.Concat(samples.All(1, 1, 3), samples.All(2, 1, 2), samples.All(3, 1, 2), []api.Machine{exampleA(), exampleC()}),
		slices.Concat(samples.All(1, 2, 2), samples.All(2, 2, 1), samples.All(1, 2, 1)),
		slices.Concat(samples.All(1, 3, 2), samples.All(1, 3, 1)),
	}
}

// smallPairs calls a function for any two machines of a family.
func smallPairs(call func(a, b api.Machine)) {
	for _, family := range smallFamilies() {
		for _, a := range family {
			for _, b := range family {
				call(a, b)
			}
		}
	}
}

// changes returns machines that have another edge than the given one in a single place.
func changes(t *testing.T, m api.Machine) []api.Machine {
	t.Helper()
	var l []api.Machine
	for n := range 12 {
		s, i := n*7%len(m.Rows), n%m.Inputs
		x := m.Rows[s][i]
		switch {
		case x == none:
			x = api.Edge{To: n % len(m.Rows), Out: n % m.Outputs}
		case n%6 == 5:
			x = none
		case n%3 == 2:
			x.Out = (x.Out + 1) % m.Outputs
		default:
			x.To = (x.To + 1 + n) % len(m.Rows)
		}
		changed, e := machines.With(m, s, i, x)
		if e != api.OK {
			t.Fatalf("With(%v, %d, %d, %v): error %d", m, s, i, x, e)
		}
		l = append(l, changed)
	}
	return l
}

// largePairs calls a function for pairs of machines with too many states to try all words.
func largePairs(t *testing.T, call func(a, b api.Machine)) {
	t.Helper()
	l := []api.Machine{samples.Scattered(64, 1, 1), samples.Scattered(64, 2, 2), samples.Scattered(64, 16, 3), samples.Chain(64), samples.Ring(63), samples.Largest(), wheel(31, 30), forks()}
	for seed := range 30 {
		l = append(l, samples.Scattered(5+seed, 1+seed%3, seed))
	}
	for _, m := range l {
		call(m, m)
		for copies := 2; copies < 5 && copies*len(m.Rows) <= api.MaxStates; copies++ {
			other := samples.Copied(m, copies)
			call(m, other)
			for _, changed := range changes(t, m) {
				call(changed, other)
			}
			for _, changed := range changes(t, other) {
				call(m, changed)
			}
		}
		for _, changed := range changes(t, m) {
			call(m, changed)
			call(changed, m)
		}
	}
	for n := range len(l) - 1 {
		if l[n].Inputs == l[n+1].Inputs {
			call(l[n], l[n+1])
		}
	}
	for states := 50; states < 64; states++ {
		call(wheel(states, -1), wheel(64, -1))
		call(wheel(states, states-1), wheel(64, states-1))
	}
}

// P10.1, P10.2
func TestDifferEqualAndWithin(t *testing.T) {
	stuck := samples.Machine(1, 1, []api.Edge{none})
	for _, x := range []struct {
		name string
		a, b api.Machine
		want []int
	}{
		{"example, equal", exampleA(), exampleB(), nil},
		{"example, different", exampleA(), exampleC(), []int{0, 0, 0}},
		{"example, the second and the third", exampleB(), exampleC(), []int{0, 0, 0}},
		{"itself", exampleC(), exampleC(), nil},
		{"the toggle and always 0", toggle(), loop(0), []int{0, 0}},
		{"the toggle and always 1", toggle(), loop(1), []int{0}},
		{"other outputs", loop(0), loop(1), []int{0}},
		{"more outputs that no edge has", loop(1), samples.Machine(1, 16, []api.Edge{{To: 0, Out: 1}}), nil},
		{"an output that the other machine does not have", samples.Machine(1, 1, []api.Edge{{}}), samples.Machine(1, 16, []api.Edge{{Out: 15}}), []int{0}},
		{"nothing defined", stuck, stuck, nil},
		{"undefined and defined", stuck, loop(0), []int{0}},
		{"undefined later", samples.Machine(1, 2, []api.Edge{{To: 1}}, []api.Edge{none}), loop(0), []int{0, 0}},
		{"undefined in both, from other states", samples.Machine(1, 2, []api.Edge{{To: 1}}, []api.Edge{none}), samples.Machine(1, 2, []api.Edge{{To: 2}}, []api.Edge{{To: 1, Out: 1}}, []api.Edge{none}), nil},
		{"only the last input is defined", samples.Machine(3, 2, []api.Edge{none, none, {To: 0, Out: 0}}), samples.Machine(3, 2, []api.Edge{none, none, {To: 1, Out: 0}}, []api.Edge{none, none, {To: 1, Out: 1}}), []int{2, 2}},
		{"states that are not reached", loop(0), samples.Machine(1, 2, []api.Edge{{To: 0}}, []api.Edge{{To: 0, Out: 1}}), nil},
		{"the initial state is another one", toggle(), samples.Machine(1, 2, []api.Edge{{To: 1, Out: 1}}, []api.Edge{{To: 0, Out: 0}}), []int{0}},
		{"the least of several inputs", samples.Machine(3, 2, []api.Edge{{}, {}, {}}), samples.Machine(3, 2, []api.Edge{{}, {Out: 1}, {Out: 1}}), []int{1}},
		{"a shorter word with a greater symbol comes first", samples.Machine(2, 2, []api.Edge{{}, {}}), samples.Machine(2, 2, []api.Edge{{To: 1}, {Out: 1}}, []api.Edge{{Out: 1}, {Out: 1}}), []int{1}},
		{"the least of several words", samples.Machine(3, 2, []api.Edge{{}, {}, {}}), forks(), []int{1, 0, 2}},
		{"the least of several words, from another machine", samples.Changed(forks(), func(m *api.Machine) { m.Rows[3][2].Out = 0 }), samples.Machine(3, 2, []api.Edge{{}, {}, {}}), []int{2, 1, 0}},
		{"the pair that comes first has the least word", samples.Changed(forks(), func(m *api.Machine) { m.Rows[3][2].Out, m.Rows[1][2].To = 0, 4 }), forks(), []int{1, 0, 2}},
		{"chain", samples.Chain(64), samples.Chain(64), nil},
		{"chain, and a shorter one", samples.Chain(64), samples.Chain(63), zeros(63)},
		{"chain, and one that does not end", samples.Chain(64), loop(0), zeros(64)},
		{"ring, and a shorter one", samples.Ring(64), samples.Ring(16), nil},
		{"ring, and a ring of 63", samples.Ring(64), samples.Ring(63), zeros(64)},
		{"wheels with words to pairs that are too long to be words", wheel(63, -1), wheel(64, -1), nil},
		{"wheels, as late as possible", wheel(63, 62), wheel(64, 62), zeros(126)},
		{"largest", samples.Largest(), samples.Largest(), nil},
		{"largest, an edge less", samples.Largest(), samples.LargestBut(none), []int{14, 15, 15, 15, 15}},
		{"largest, another output", samples.LargestBut(api.Edge{To: 15, Out: 14}), samples.Largest(), []int{14, 15, 15, 15, 15}},
	} {
		for _, p := range [][2]api.Machine{{x.a, x.b}, {x.b, x.a}} {
			w, differ, e := Differ(p[0], p[1])
			if !slices.Equal(w, x.want) || differ != (len(x.want) > 0) || e != api.OK || cap(w) != len(w) {
				t.Errorf("Differ, %s: %v, %v, error %d, capacity %d; want %v", x.name, w, differ, e, cap(w), x.want)
			}
			if equal, e := Equal(p[0], p[1]); equal != (len(x.want) == 0) || e != api.OK {
				t.Errorf("Equal, %s: %v, error %d; want the word %v", x.name, equal, e, x.want)
			}
			for _, k := range []int{0, 1, 2, 3, len(x.want) - 1, len(x.want), len(x.want) + 1, 127, 128, 256, 257, 70000, math.MaxInt} {
				if k < 0 {
					continue
				}
				if within, e := Within(p[0], p[1], k); within != (len(x.want) == 0 || k < len(x.want)) || e != api.OK {
					t.Errorf("Within, %s, %d: %v, error %d; want the word %v", x.name, k, within, e, x.want)
				}
			}
		}
	}
}

// P10.2
func TestWithinRefusesLengthsBelowZero(t *testing.T) {
	for _, k := range []int{-1, -2, -256, math.MinInt} {
		for _, b := range []api.Machine{exampleA(), exampleB(), exampleC(), loop(1)} {
			if within, e := Within(exampleA(), b, k); within || e != api.ErrArg {
				t.Errorf("Within(a, %v, %d) = %v, error %d", b, k, within, e)
			}
		}
	}
}

// P10.1, P10.2
func TestDifferEqualAndWithinFollowTheDefinition(t *testing.T) {
	smallPairs(func(a, b api.Machine) {
		states := len(a.Rows) + len(b.Rows)
		want, is := differOf(a, b, states+1)
		w, differ, e := Differ(a, b)
		if !slices.Equal(w, want) || differ != is || e != api.OK {
			t.Errorf("Differ(%v, %v) = %v, %v, error %d; want %v, %v", a, b, w, differ, e, want, is)
		}
		if equal, e := Equal(a, b); equal == is || e != api.OK {
			t.Errorf("Equal(%v, %v) = %v, error %d; want the word %v, %v", a, b, equal, e, want, is)
		}
		for k := range states + 2 {
			if within, e := Within(a, b, k); within != (!is || len(want) > k) || e != api.OK {
				t.Errorf("Within(%v, %v, %d) = %v, error %d; want the word %v, %v", a, b, k, within, e, want, is)
			}
		}
	})
}

// P10.1
func TestDifferIsTheSeparatingWordOfTheInitialStates(t *testing.T) {
	count := 0
	largePairs(t, func(a, b api.Machine) {
		if len(a.Rows)+len(b.Rows) > api.MaxStates {
			return
		}
		want, apart, e := splits.Separate(joined(a, b), 0, len(a.Rows))
		w, differ, f := Differ(a, b)
		if !slices.Equal(w, want) || differ != apart || e != api.OK || f != api.OK {
			t.Errorf("Differ(%v, %v) = %v, %v, errors %d, %d; want %v, %v", a, b, w, differ, e, f, want, apart)
		}
		if differ {
			count++
		}
	})
	if count < 100 {
		t.Errorf("only %d pairs of machines that differ have been tried", count)
	}
}

// P10.1
func TestMachinesAreEqualIfTheirMinimalFormsAre(t *testing.T) {
	largePairs(t, func(a, b api.Machine) {
		x, e := quotients.Minimal(a)
		y, f := quotients.Minimal(b)
		want := slices.EqualFunc(x.Rows, y.Rows, slices.Equal)
		if equal, g := Equal(a, b); equal != want || e != api.OK || f != api.OK || g != api.OK {
			t.Errorf("Equal(%v, %v) = %v, errors %d, %d, %d; want %v", a, b, equal, e, f, g, want)
		}
		w, differ, e := Differ(a, b)
		v, _ := after(a, w)
		u, _ := after(b, w)
		if differ == want || e != api.OK || differ == slices.Equal(v, u) {
			t.Errorf("Differ(%v, %v) = %v, %v, error %d; the responses are %v and %v", a, b, w, differ, e, v, u)
		}
	})
}

// P10.3
func TestRelate(t *testing.T) {
	stuck := samples.Machine(1, 1, []api.Edge{none})
	var ring [][2]int
	for s := range 64 {
		ring = append(ring, [2]int{s, s % 16})
	}
	for _, x := range []struct {
		name string
		a, b api.Machine
		want [][2]int
	}{
		{"example, equal", exampleA(), exampleB(), [][2]int{{0, 0}, {0, 3}, {1, 1}, {2, 2}}},
		{"example, the other way", exampleB(), exampleA(), [][2]int{{0, 0}, {1, 1}, {2, 2}, {3, 0}}},
		{"example, different", exampleA(), exampleC(), nil},
		{"the toggle and always 0", toggle(), loop(0), nil},
		{"the toggle", toggle(), toggle(), [][2]int{{0, 0}, {1, 1}}},
		{"nothing defined", stuck, stuck, [][2]int{{0, 0}}},
		{"undefined and defined", stuck, loop(0), nil},
		{"after undefined edges there is no pair", samples.Machine(2, 1, []api.Edge{{To: 1}, none}, []api.Edge{none, {To: 1}}), samples.Machine(2, 1, []api.Edge{{To: 2}, none}, []api.Edge{{To: 1}, {To: 1}}, []api.Edge{none, {To: 2}}), [][2]int{{0, 0}, {1, 2}}},
		{"states that are not reached", loop(0), samples.Machine(1, 2, []api.Edge{{To: 0}}, []api.Edge{{To: 0}}), [][2]int{{0, 0}}},
		{"equivalent states, but not after the same words", samples.Machine(1, 1, []api.Edge{{To: 1}}, []api.Edge{{To: 0}}), samples.Machine(1, 1, []api.Edge{{To: 1}}, []api.Edge{{To: 0}}), [][2]int{{0, 0}, {1, 1}}},
		{"ascending, though reached in another order", samples.Machine(1, 1, []api.Edge{{To: 2}}, []api.Edge{{To: 1}}, []api.Edge{{To: 1}}), samples.Machine(1, 1, []api.Edge{{To: 3}}, []api.Edge{{To: 2}}, []api.Edge{{To: 0}}, []api.Edge{{To: 1}}), [][2]int{{0, 0}, {1, 0}, {1, 1}, {1, 2}, {1, 3}, {2, 3}}},
		{"more outputs", loop(1), samples.Machine(1, 16, []api.Edge{{To: 0, Out: 1}}), [][2]int{{0, 0}}},
		{"chain", samples.Chain(64), samples.Chain(64), alongside(64)},
		{"chain, and a shorter one", samples.Chain(64), samples.Chain(63), nil},
		{"ring, and a shorter one", samples.Ring(64), samples.Ring(16), ring},
		{"wheels with words to pairs that are too long to be words", wheel(63, -1), wheel(64, -1), product(63, 64)},
		{"wheels, the other way", wheel(64, -1), wheel(61, -1), product(64, 61)},
		{"wheels that differ as late as possible", wheel(63, 62), wheel(64, 62), nil},
		{"largest", samples.Largest(), samples.Largest(), alongside(64)},
		{"one state, and as many as there may be", samples.Machine(2, 1, []api.Edge{{}, {}}), twoWheels(64), product(1, 64)},
		{"all pairs of as many states as there may be", twoWheels(64), otherWheels(64), product(64, 64)},
		{"largest, an edge less", samples.Largest(), samples.LargestBut(none), nil},
	} {
		r, equal, e := Relate(x.a, x.b)
		if !slices.Equal(r, x.want) || equal != (len(x.want) > 0) || e != api.OK || cap(r) != len(r) {
			t.Errorf("%s: %v, %v, error %d, capacity %d; want %v", x.name, r, equal, e, cap(r), x.want)
		}
	}
}

// P10.3
func TestRelateFollowsTheDefinition(t *testing.T) {
	smallPairs(func(a, b api.Machine) {
		r, equal, e := Relate(a, b)
		_, differ := differOf(a, b, len(a.Rows)+len(b.Rows)-1)
		var want [][2]int
		if !differ {
			want = relateOf(a, b)
		}
		if !slices.Equal(r, want) || equal == differ || e != api.OK {
			t.Errorf("Relate(%v, %v) = %v, %v, error %d; want %v, %v", a, b, r, equal, e, want, !differ)
		}
	})
}

// P10.4
func TestCheckRelation(t *testing.T) {
	a, b := exampleA(), exampleB()
	r := [][2]int{{0, 0}, {0, 3}, {1, 1}, {2, 2}}
	stuck := samples.Machine(1, 1, []api.Edge{none})
	for _, x := range []struct {
		name string
		a, b api.Machine
		r    [][2]int
		want bool
	}{
		{"example", a, b, r, true},
		{"example, too few pairs", a, b, [][2]int{{0, 0}, {1, 1}}, false},
		{"nil", a, b, nil, false},
		{"empty", a, b, [][2]int{}, false},
		{"another order", a, b, [][2]int{{2, 2}, {0, 3}, {1, 1}, {0, 0}}, true},
		{"pairs twice", a, b, slices.Concat(r, r[1:], r), true},
		{"a pair too much that does not hold", a, b, append(slices.Clone(r), [2]int{1, 0}), false},
		{"without the pair of the initial states", a, b, r[1:], false},
		{"without the last pair", a, b, r[:3], false},
		{"the other way, but not the machines", b, b, [][2]int{{0, 0}, {3, 0}, {1, 1}, {2, 2}}, false},
		{"more pairs than are reached", b, b, append(alongside(4), [2]int{3, 0}, [2]int{0, 3}), true},
		{"all that are reached", b, b, alongside(4), true},
		{"only pairs that are not reached", b, b, [][2]int{{3, 0}, {1, 1}, {2, 2}, {3, 3}}, false},
		{"different machines", a, exampleC(), alongside(3), false},
		{"different machines, all pairs", a, exampleC(), product(3, 3), false},
		{"both undefined", stuck, stuck, [][2]int{{0, 0}}, true},
		{"the first undefined", stuck, loop(0), [][2]int{{0, 0}}, false},
		{"the second undefined", loop(0), stuck, [][2]int{{0, 0}}, false},
		{"other outputs", loop(0), loop(1), [][2]int{{0, 0}}, false},
		{"more outputs", loop(1), samples.Machine(1, 16, []api.Edge{{To: 0, Out: 1}}), [][2]int{{0, 0}}, true},
		{"the last input has other outputs", samples.Machine(2, 2, []api.Edge{{}, {}}), samples.Machine(2, 2, []api.Edge{{}, {Out: 1}}), [][2]int{{0, 0}}, false},
		{"the last input leads elsewhere", samples.Machine(2, 2, []api.Edge{{}, {}}), samples.Machine(2, 2, []api.Edge{{}, {To: 1}}, []api.Edge{{}, {}}), [][2]int{{0, 0}}, false},
		{"outputs of a pair that is not reached", samples.Machine(1, 2, []api.Edge{{}}, []api.Edge{{To: 1}}), samples.Machine(1, 2, []api.Edge{{}}, []api.Edge{{To: 1, Out: 1}}), [][2]int{{0, 0}, {1, 1}}, false},
		{"the largest list", loop(0), loop(0), make([][2]int, 4096), true},
		{"all pairs of as many states as there may be", wheel(64, -1), wheel(64, -1), product(64, 64), true},
		{"all pairs, but not equivalent", wheel(64, 63), wheel(64, 63), product(64, 64), false},
		{"all pairs that are reached", wheel(64, 63), wheel(64, 63), alongside(64), true},
		{"all pairs but the last one", wheel(63, -1), wheel(64, -1), product(63, 64)[:63*64-1], false},
		{"all pairs but the first one", wheel(63, -1), wheel(64, -1), product(63, 64)[1:], false},
	} {
		if certifies, e := CheckRelation(x.a, x.b, x.r); certifies != x.want || e != api.OK {
			t.Errorf("%s: %v, error %d; want %v", x.name, certifies, e, x.want)
		}
	}
}

// P10.4
func TestCheckRelationRefuses(t *testing.T) {
	a, b := exampleA(), exampleB()
	for _, x := range []struct {
		name string
		r    [][2]int
		want api.Errno
	}{
		{"no state of the second machine", [][2]int{{0, 4}}, api.ErrArg},
		{"no state of the first machine", [][2]int{{3, 0}}, api.ErrArg},
		{"the numbers exchanged", [][2]int{{0, 0}, {1, 1}, {2, 2}, {3, 0}}, api.ErrArg},
		{"negative in the first machine", [][2]int{{-1, 0}}, api.ErrArg},
		{"negative in the second machine", [][2]int{{0, -1}}, api.ErrArg},
		{"the last pair", [][2]int{{0, 0}, {0, 3}, {1, 1}, {2, 2}, {2, 4}}, api.ErrArg},
		{"behind a pair that does not hold", [][2]int{{0, 2}, {0, 4}}, api.ErrArg},
		{"without the pair of the initial states", [][2]int{{1, 1}, {0, 4}}, api.ErrArg},
		{"none for both", [][2]int{{api.None, api.None}}, api.ErrArg},
		{"greatest", [][2]int{{0, math.MaxInt}}, api.ErrArg},
		{"least", [][2]int{{math.MinInt, 0}}, api.ErrArg},
		{"no state at the end of the largest list", append(make([][2]int, 4095), [2]int{3, 0}), api.ErrArg},
		{"too many pairs", make([][2]int, 4097), api.ErrLimit},
		{"far too many pairs", make([][2]int, 70000), api.ErrLimit},
		{"too many before no state", append([][2]int{{0, 4}, {-1, 0}}, make([][2]int, 4096)...), api.ErrLimit},
	} {
		if certifies, e := CheckRelation(a, b, x.r); certifies || e != x.want {
			t.Errorf("%s: %v, error %d; want error %d", x.name, certifies, e, x.want)
		}
	}
	for _, p := range [][2]int{{64, 0}, {0, 64}, {63, 64}, {64, 63}} {
		if certifies, e := CheckRelation(samples.Largest(), samples.Largest(), append(alongside(64), p)); certifies || e != api.ErrArg {
			t.Errorf("largest, %v: %v, error %d", p, certifies, e)
		}
	}
}

// refused holds the error of all functions with two machines against an error that comes before all others.
func refused(t *testing.T, name string, a, b api.Machine, want api.Errno) {
	t.Helper()
	if w, differ, e := Differ(a, b); len(w) != 0 || differ || e != want {
		t.Errorf("Differ, %s: %v, %v, error %d; want error %d", name, w, differ, e, want)
	}
	if equal, e := Equal(a, b); equal || e != want {
		t.Errorf("Equal, %s: %v, error %d; want error %d", name, equal, e, want)
	}
	for _, k := range []int{0, 1, -1, 257, math.MinInt, math.MaxInt} {
		if within, e := Within(a, b, k); within || e != want {
			t.Errorf("Within, %s, %d: %v, error %d; want error %d", name, k, within, e, want)
		}
	}
	if r, equal, e := Relate(a, b); len(r) != 0 || equal || e != want {
		t.Errorf("Relate, %s: %v, %v, error %d; want error %d", name, r, equal, e, want)
	}
	for _, r := range [][][2]int{nil, {{0, 0}}, {{0, 64}}, {{-1, math.MaxInt}}, make([][2]int, 4097)} {
		if certifies, e := CheckRelation(a, b, r); certifies || e != want {
			t.Errorf("CheckRelation, %s, %d pairs: %v, error %d; want error %d", name, len(r), certifies, e, want)
		}
	}
}

// P10.1, P10.2, P10.3, P10.4
func TestTheMachinesAreCheckedFirst(t *testing.T) {
	for _, x := range samples.Invalid() {
		for _, m := range []api.Machine{loop(0), samples.Machine(2, 2, []api.Edge{none, none}), samples.Largest()} {
			refused(t, x.Name+" first", x.M, m, x.Want)
			refused(t, x.Name+" second", m, x.M, x.Want)
		}
		for _, y := range samples.Invalid() {
			refused(t, x.Name+" before "+y.Name, x.M, y.M, x.Want)
		}
	}
}

// P10.1, P10.2, P10.3, P10.4
func TestTheNumbersOfInputsAreComparedSecond(t *testing.T) {
	for _, x := range []struct {
		name string
		a, b api.Machine
	}{
		{"example and two inputs", exampleA(), samples.Machine(2, 2, []api.Edge{{}, {}})},
		{"nothing defined", samples.Machine(1, 1, []api.Edge{none}), samples.Machine(2, 1, []api.Edge{none, none})},
		{"equal but for the last input", samples.Machine(15, 1, make([]api.Edge, 15)), samples.Machine(16, 1, make([]api.Edge, 16))},
		{"most and least inputs", samples.Largest(), samples.Ring(64)},
	} {
		refused(t, x.name, x.a, x.b, api.ErrAlpha)
		refused(t, x.name+", the other way", x.b, x.a, api.ErrAlpha)
	}
}

// P10.5
func TestTheLeastWordIsShorterThanBothHaveStates(t *testing.T) {
	hold := func(a, b api.Machine) {
		states := len(a.Rows) + len(b.Rows)
		w, differ, e := Differ(a, b)
		if len(w) >= states || e != api.OK {
			t.Errorf("Differ(%v, %v) = %v, error %d: too long", a, b, w, e)
		}
		if within, e := Within(a, b, states-1); within == differ || e != api.OK {
			t.Errorf("Within(%v, %v, %d) = %v, error %d, but they differ is %v", a, b, states-1, within, e, differ)
		}
	}
	smallPairs(hold)
	largePairs(t, hold)
}

// P10.5
func TestNoShorterWordsAreEnough(t *testing.T) {
	for states := 2; states <= 64; states++ {
		a, b := wheel(states-1, states-2), wheel(states, states-2)
		w, differ, e := Differ(a, b)
		if len(w) != 2*states-2 || !differ || e != api.OK {
			t.Errorf("wheels of %d and %d: %v, %v, error %d", states-1, states, w, differ, e)
		}
		if within, e := Within(a, b, 2*states-3); !within || e != api.OK {
			t.Errorf("wheels of %d and %d: %v, error %d", states-1, states, within, e)
		}
	}
}

// relations returns all lists of pairs of so many states, ascending.
func relations(a, b int) [][][2]int {
	all := product(a, b)
	l := make([][][2]int, 1<<len(all))
	for n := range l {
		for k, p := range all {
			if n>>k&1 == 1 {
				l[n] = append(l[n], p)
			}
		}
	}
	return l
}

// P10.4, P10.5
func TestCheckRelationFollowsTheDefinition(t *testing.T) {
	for _, l := range [][]api.Machine{
		slices.Concat(samples.All(1, 1, 2), samples.All(2, 1, 2), []api.Machine{exampleA(), exampleC()}),
		slices.Concat(samples.All(1, 2, 1), samples.All(2, 2, 1)),
	} {
		for _, a := range l {
			for _, b := range l {
				least, equal, _ := Relate(a, b)
				found := false
				for _, r := range relations(len(a.Rows), len(b.Rows)) {
					certifies, e := CheckRelation(a, b, r)
					if certifies != certifiesOf(a, b, r) || e != api.OK {
						t.Errorf("CheckRelation(%v, %v, %v) = %v, error %d", a, b, r, certifies, e)
					}
					if !certifies {
						continue
					}
					found = true
					for _, p := range least {
						if !slices.Contains(r, p) {
							t.Errorf("%v certifies that %v and %v are equal, but does not have %v", r, a, b, p)
						}
					}
				}
				if found != equal {
					t.Errorf("some relation certifies that %v and %v are equal is %v, but Relate says %v", a, b, found, equal)
				}
			}
		}
	}
}

// P10.3, P10.5
func TestRelateCertifies(t *testing.T) {
	hold := func(a, b api.Machine) {
		r, related, e := Relate(a, b)
		equal, f := Equal(a, b)
		if related != equal || e != api.OK || f != api.OK {
			t.Fatalf("Relate(%v, %v) is %v, Equal %v; errors %d, %d", a, b, related, equal, e, f)
		}
		if certifies, e := CheckRelation(a, b, r); certifies != equal || e != api.OK {
			t.Errorf("CheckRelation(%v, %v, %v) = %v, error %d, but Equal is %v", a, b, r, certifies, e, equal)
		}
		if !slices.IsSortedFunc(r, func(p, q [2]int) int { return slices.Compare(p[:], q[:]) }) || len(slices.Compact(slices.Clone(r))) != len(r) {
			t.Errorf("Relate(%v, %v) = %v: not ascending, or a pair twice", a, b, r)
		}
	}
	smallPairs(hold)
	largePairs(t, hold)
}

// P10.5
func TestEachPairOfRelateIsNeeded(t *testing.T) {
	for _, p := range [][2]api.Machine{{exampleA(), exampleB()}, {samples.Ring(64), samples.Ring(16)}, {wheel(9, -1), wheel(8, -1)}, {samples.Chain(64), samples.Chain(64)}, {samples.Scattered(12, 2, 5), samples.Copied(samples.Scattered(12, 2, 5), 4)}} {
		r, equal, e := Relate(p[0], p[1])
		if !equal || e != api.OK {
			t.Fatalf("Relate(%v, %v): %v, error %d", p[0], p[1], equal, e)
		}
		for n, left := range r {
			if certifies, e := CheckRelation(p[0], p[1], slices.Delete(slices.Clone(r), n, n+1)); certifies || e != api.OK {
				t.Errorf("CheckRelation(%v, %v) without %v: %v, error %d", p[0], p[1], left, certifies, e)
			}
		}
	}
}

// Rules R1 and R4: arguments stay as they are, and results share memory neither with them nor with each other.
func TestArgumentsAreNeitherChangedNorShared(t *testing.T) {
	row := append(make([]api.Edge, 0, 8), api.Edge{To: 1}, none)
	m := samples.Machine(2, 1, append(make([][]api.Edge, 0, 8), row, []api.Edge{none, {}}, row)...)
	other := samples.Machine(2, 1, row, []api.Edge{none, {To: 2}}, row)
	late := samples.Machine(2, 1, row, []api.Edge{none, none})
	r := append(make([][2]int, 0, 8), [2]int{2, 2}, [2]int{0, 0}, [2]int{1, 1}, [2]int{0, 2})
	before, otherBefore := samples.Clone(m), samples.Clone(other)
	for range 2 {
		w, _, _ := Differ(m, late)
		pairs, _, _ := Relate(m, other)
		equal, _ := Equal(m, other)
		within, _ := Within(m, late, 1)
		certifies, _ := CheckRelation(m, other, r)
		if !slices.Equal(w, []int{0, 1}) || !slices.Equal(pairs, [][2]int{{0, 0}, {0, 2}, {1, 1}}) || !equal || !within || !certifies {
			t.Errorf("%v, %v, %v, %v, %v", w, pairs, equal, within, certifies)
		}
		// What is written into a result changes no argument, and no later result.
		w[0], pairs[0] = 98, [2]int{99, 99}
	}
	if !machines.Same(m, before) || !machines.Same(other, otherBefore) || row[:3][2] != (api.Edge{}) || m.Rows[:4][3] != nil {
		t.Errorf("changed: %v, %v", m, other)
	}
	if !slices.Equal(r[:8], [][2]int{{2, 2}, {0, 0}, {1, 1}, {0, 2}, {}, {}, {}, {}}) {
		t.Errorf("changed: %v", r)
	}
}
