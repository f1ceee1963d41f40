package walks

import (
	"math"
	"slices"
	"testing"

	"gauntlet/api"
	"gauntlet/machines"
	"gauntlet/samples"
	"gauntlet/words"
)

// none is the undefined edge.
var none = api.Edge{To: api.None, Out: api.None}

// example returns the machine of the chapter's examples.
func example() api.Machine {
	return samples.Machine(2, 2,
		[]api.Edge{{To: 2, Out: 0}, {To: 0, Out: 1}},
		[]api.Edge{{To: 1, Out: 0}, {To: 2, Out: 0}},
		[]api.Edge{none, {To: 3, Out: 1}},
		[]api.Edge{{To: 2, Out: 0}, {To: 0, Out: 0}})
}

// knot returns a machine with the access words: empty; 1 0; 0 1; 0; 1. To 2 also 1 1 leads, which is later, and to 1 also 0 1 0, which is longer.
func knot() api.Machine {
	return samples.Machine(2, 2,
		[]api.Edge{{To: 3, Out: 1}, {To: 4, Out: 0}},
		[]api.Edge{{To: 1, Out: 1}, none},
		[]api.Edge{{To: 1, Out: 0}, {To: 0, Out: 0}},
		[]api.Edge{{To: 3, Out: 0}, {To: 2, Out: 1}},
		[]api.Edge{{To: 1, Out: 1}, {To: 2, Out: 1}})
}

// backwards returns a machine with one input that goes from each state to the one before it, and from the first one to the last one.
func backwards(states int) api.Machine {
	m := samples.Machine(1, 1)
	for s := range states {
		m.Rows = append(m.Rows, []api.Edge{{To: (s + states - 1) % states}})
	}
	return m
}

// small returns all machines with three states, two inputs and an output, and all those with two states, two inputs and two outputs.
func small() []api.Machine {
	return slices.Concat(samples.All(3, 2, 1), samples.All(2, 2, 2))
}

// numbered returns a machine with its states in another order: that of the number s becomes number[s].
func numbered(m api.Machine, number []int) api.Machine {
	other := samples.Machine(m.Inputs, m.Outputs, make([][]api.Edge, len(m.Rows))...)
	for s, row := range m.Rows {
		for _, x := range row {
			if x != none {
				x.To = number[x.To]
			}
			other.Rows[number[s]] = append(other.Rows[number[s]], x)
		}
	}
	return other
}

// multiples returns the numbers of 64 states, each of them multiplied, modulo 64: another order with the same first one, if the factor is odd.
func multiples(factor int) []int {
	var number []int
	for s := range 64 {
		number = append(number, s*factor%64)
	}
	return number
}

// pathOf returns by the definition the path from a state to another one. It takes no state twice, so there are no longer words to be tried.
func pathOf(m api.Machine, s, t int) ([]int, bool) {
	for w := range words.All(m.Inputs, len(m.Rows)-1) {
		if after, _ := machines.After(m, s, w); after == t {
			return w, true
		}
	}
	return nil, false
}

// reachedOf returns by the definition the states that are reached.
func reachedOf(m api.Machine) []int {
	var states []int
	for s := range m.Rows {
		if _, is := pathOf(m, 0, s); is {
			states = append(states, s)
		}
	}
	return states
}

// formOf returns by the definition the machine with some states alone, in an order.
func formOf(m api.Machine, states []int) api.Machine {
	form := samples.Machine(m.Inputs, m.Outputs)
	for _, s := range states {
		row := slices.Clone(m.Rows[s])
		for i, x := range row {
			if x != none {
				row[i].To = slices.Index(states, x.To)
			}
		}
		form.Rows = append(form.Rows, row)
	}
	return form
}

// byPaths returns states in the order of their access words.
func byPaths(m api.Machine, states []int) []int {
	return slices.SortedFunc(slices.Values(states), func(s, t int) int {
		v, _ := pathOf(m, 0, s)
		w, _ := pathOf(m, 0, t)
		return words.Compare(v, w)
	})
}

// correspondingOf returns which states correspond to each other if there is a list of them that keeps the initial state and all edges, with as many states that are reached on both sides.
func correspondingOf(a, b api.Machine) ([]int, bool) {
	if a.Inputs != b.Inputs || a.Outputs != b.Outputs || len(reachedOf(a)) != len(reachedOf(b)) {
		return nil, false
	}
	f := make([]int, len(a.Rows))
	for s := range f {
		f[s] = api.None
		if w, is := pathOf(a, 0, s); is {
			f[s], _ = machines.After(b, 0, w)
		}
	}
	for _, s := range reachedOf(a) {
		for i, x := range a.Rows[s] {
			if f[s] == api.None {
				return nil, false
			}
			if x != none {
				x.To = f[x.To]
			}
			if b.Rows[f[s]][i] != x {
				return nil, false
			}
		}
	}
	return f, true
}

// full reports whether lists have the capacity that they need, and no more.
func full[E any](l ...[]E) bool {
	return !slices.ContainsFunc(l, func(x []E) bool { return cap(x) != len(x) })
}

// P6.1
func TestReachAndAccess(t *testing.T) {
	for _, x := range []struct {
		name    string
		m       api.Machine
		reached []int
		paths   [][]int
	}{
		{"example", example(), []int{0, 2, 3}, [][]int{nil, nil, {0}, {0, 1}}},
		{"knot", knot(), []int{0, 1, 2, 3, 4}, [][]int{nil, {1, 0}, {0, 1}, {0}, {1}}},
		{"one state", samples.Machine(1, 1, []api.Edge{{}}), []int{0}, [][]int{nil}},
		{"nothing defined", samples.Machine(1, 1, []api.Edge{none}, []api.Edge{{}}), []int{0}, [][]int{nil, nil}},
		{"an edge to the initial state", samples.Machine(1, 1, []api.Edge{{}}, []api.Edge{{}}), []int{0}, [][]int{nil, nil}},
		{"two inputs to one state", samples.Machine(2, 1, []api.Edge{{To: 1}, {To: 1}}, []api.Edge{none, none}), []int{0, 1}, [][]int{nil, {0}}},
		{"only the last input", samples.Machine(3, 1, []api.Edge{none, {}, {To: 1}}, []api.Edge{none, none, none}), []int{0, 1}, [][]int{nil, {2}}},
		{"a short word before a lesser symbol", samples.Machine(2, 1, []api.Edge{{To: 2}, {To: 1}}, []api.Edge{none, none}, []api.Edge{{To: 1}, none}), []int{0, 1, 2}, [][]int{nil, {1}, {0}}},
	} {
		reached, e := Reach(x.m)
		if !slices.Equal(reached, x.reached) || e != api.OK || !full(reached) {
			t.Errorf("%s: Reach is %v, error %d, capacity %d; want %v", x.name, reached, e, cap(reached), x.reached)
		}
		paths, is, e := Access(x.m)
		if !slices.EqualFunc(paths, x.paths, slices.Equal) || e != api.OK || !full(paths) || !full(paths...) || !full(is) {
			t.Errorf("%s: Access is %v, error %d; want %v", x.name, paths, e, x.paths)
		}
		for s := range x.m.Rows {
			if len(is) != len(x.m.Rows) || is[s] != slices.Contains(x.reached, s) {
				t.Fatalf("%s: of %d Access says %v", x.name, s, is)
			}
		}
	}
}

// P6.1
func TestAccessInLargeMachines(t *testing.T) {
	forth, is, e := Access(samples.Ring(64))
	back, was, f := Access(backwards(64))
	wide, are, g := Access(samples.Largest())
	if e != api.OK || f != api.OK || g != api.OK {
		t.Fatalf("errors %d, %d, %d", e, f, g)
	}
	for s := range 64 {
		if !is[s] || !slices.Equal(forth[s], make([]int, s)) {
			t.Errorf("ring: %d has %v, %v", s, forth[s], is[s])
		}
		if !was[s] || !slices.Equal(back[s], make([]int, (64-s)%64)) {
			t.Errorf("backwards: %d has %v, %v", s, back[s], was[s])
		}
		// Each symbol of a shortest word leads on by 16 states, except for one: it is the first one in the least word.
		var want []int
		if s > 0 {
			want = append([]int{(s - 1) % 16}, slices.Repeat([]int{15}, (s-1)/16)...)
		}
		if !are[s] || !slices.Equal(wide[s], want) {
			t.Errorf("largest: %d has %v, %v; want %v", s, wide[s], are[s], want)
		}
	}
}

// P6.2
func TestPath(t *testing.T) {
	for _, x := range []struct {
		name string
		m    api.Machine
		s, t int
		want []int
		is   bool
	}{
		{"example", example(), 3, 2, []int{0}, true},
		{"to itself", example(), 2, 2, nil, true},
		{"two symbols", example(), 2, 0, []int{1, 1}, true},
		{"none", example(), 0, 1, nil, false},
		{"from a state that is not reached", example(), 1, 0, []int{1, 1, 1}, true},
		{"from a state that is not reached to itself", example(), 1, 1, nil, true},
		{"the lesser of two words", knot(), 0, 2, []int{0, 1}, true},
		{"the shorter of two words", knot(), 0, 1, []int{1, 0}, true},
		{"from another state", knot(), 3, 4, []int{1, 1, 1}, true},
		{"from a state that leads only to itself", knot(), 1, 0, nil, false},
		{"a state without edges to itself", samples.Machine(1, 1, []api.Edge{none}), 0, 0, nil, true},
		{"from a state without edges", samples.Machine(1, 1, []api.Edge{none}, []api.Edge{{}}), 0, 1, nil, false},
		{"to a state without edges", samples.Machine(1, 1, []api.Edge{none}, []api.Edge{{}}), 1, 0, []int{0}, true},
		{"longest", samples.Ring(64), 1, 0, make([]int, 63), true},
		{"longest backwards", backwards(64), 62, 63, make([]int, 63), true},
		{"largest", samples.Largest(), 60, 30, []int{1, 15, 15}, true},
	} {
		got, is, e := Path(x.m, x.s, x.t)
		if !slices.Equal(got, x.want) || is != x.is || e != api.OK || !full(got) {
			t.Errorf("%s: %v, %v, error %d, capacity %d; want %v, %v", x.name, got, is, e, cap(got), x.want, x.is)
		}
	}
}

// P6.2
func TestDistances(t *testing.T) {
	for _, x := range []struct {
		name string
		m    api.Machine
		s    int
		want []int
	}{
		{"example", example(), 2, []int{2, -1, 0, 1}},
		{"initial state of the example", example(), 0, []int{0, -1, 1, 2}},
		{"state of the example that is not reached", example(), 1, []int{3, 0, 1, 2}},
		{"knot", knot(), 0, []int{0, 2, 2, 1, 1}},
		{"state that leads only to itself", knot(), 1, []int{-1, 0, -1, -1, -1}},
		{"state without edges", samples.Machine(1, 1, []api.Edge{{To: 1}}, []api.Edge{none}), 1, []int{-1, 0}},
		{"one state", samples.Machine(1, 1, []api.Edge{{}}), 0, []int{0}},
		{"ring", samples.Ring(5), 3, []int{2, 3, 4, 0, 1}},
		{"backwards", backwards(5), 3, []int{3, 2, 1, 0, 4}},
	} {
		got, e := Distances(x.m, x.s)
		if !slices.Equal(got, x.want) || e != api.OK || !full(got) {
			t.Errorf("%s: %v, error %d, capacity %d; want %v", x.name, got, e, cap(got), x.want)
		}
	}
	for s := range 64 {
		got, e := Distances(samples.Largest(), s)
		for u, d := range got {
			if d != ((u-s+64)%64+15)/16 {
				t.Errorf("largest: from %d to %d it is %d", s, u, d)
			}
		}
		if len(got) != 64 || e != api.OK {
			t.Errorf("largest: %v, error %d", got, e)
		}
	}
}

// P6.1, P6.2
func TestPathsFollowTheDefinition(t *testing.T) {
	for _, m := range small() {
		reached, _ := Reach(m)
		if !slices.Equal(reached, reachedOf(m)) {
			t.Errorf("Reach(%v) = %v", m, reached)
		}
		access, are, _ := Access(m)
		for s := range m.Rows {
			lengths, _ := Distances(m, s)
			for u := range m.Rows {
				want, there := pathOf(m, s, u)
				length := len(want)
				if !there {
					length = api.None
				}
				got, is, e := Path(m, s, u)
				if !slices.Equal(got, want) || is != there || e != api.OK || lengths[u] != length {
					t.Errorf("%v from %d to %d: %v, %v, error %d, distance %d; want %v, %v", m, s, u, got, is, e, lengths[u], want, there)
				}
				if s == 0 && (!slices.Equal(access[u], want) || are[u] != there) {
					t.Errorf("%v: Access of %d is %v, %v; want %v, %v", m, u, access[u], are[u], want, there)
				}
			}
		}
	}
}

// P6.2
func TestStatesAreChecked(t *testing.T) {
	for _, m := range []api.Machine{example(), samples.Machine(1, 1, []api.Edge{none}), samples.Ring(64)} {
		for _, bad := range []int{len(m.Rows), -1, 64, -2, math.MaxInt, math.MinInt} {
			for _, x := range [][2]int{{bad, 0}, {0, bad}, {bad, bad}} {
				if got, is, e := Path(m, x[0], x[1]); len(got) != 0 || is || e != api.ErrArg {
					t.Errorf("Path of %d states from %d to %d: %v, %v, error %d", len(m.Rows), x[0], x[1], got, is, e)
				}
			}
			if got, e := Distances(m, bad); len(got) != 0 || e != api.ErrArg {
				t.Errorf("Distances of %d states from %d: %v, error %d", len(m.Rows), bad, got, e)
			}
		}
	}
}

// P6.3
func TestTrim(t *testing.T) {
	for _, x := range []struct {
		name   string
		m      api.Machine
		want   api.Machine
		states []int
	}{
		{"example", example(), samples.Machine(2, 2, []api.Edge{{To: 1, Out: 0}, {To: 0, Out: 1}}, []api.Edge{none, {To: 2, Out: 1}}, []api.Edge{{To: 1, Out: 0}, {To: 0, Out: 0}}), []int{0, 2, 3}},
		{"connected, not canonical", knot(), knot(), []int{0, 1, 2, 3, 4}},
		{"the order of the numbers, not of the words", samples.Changed(knot(), func(m *api.Machine) { m.Rows[3][1], m.Rows[4][1] = none, none }),
			samples.Machine(2, 2, []api.Edge{{To: 2, Out: 1}, {To: 3, Out: 0}}, []api.Edge{{To: 1, Out: 1}, none}, []api.Edge{{To: 2, Out: 0}, none}, []api.Edge{{To: 1, Out: 1}, none}), []int{0, 1, 3, 4}},
		{"the initial state alone", samples.Machine(2, 3, []api.Edge{{Out: 2}, none}, []api.Edge{{To: 2}, {}}, []api.Edge{none, {To: 1}}), samples.Machine(2, 3, []api.Edge{{Out: 2}, none}), []int{0}},
		{"nothing defined", samples.Machine(1, 1, []api.Edge{none}, []api.Edge{none}), samples.Machine(1, 1, []api.Edge{none}), []int{0}},
		{"outputs that occur only where nothing leads", samples.Machine(1, 2, []api.Edge{{}}, []api.Edge{{Out: 1}}), samples.Machine(1, 2, []api.Edge{{}}), []int{0}},
		{"ring", samples.Ring(64), samples.Ring(64), multiples(1)},
		{"largest", samples.Largest(), samples.Largest(), multiples(1)},
		{"every other state of the largest", samples.Changed(samples.Largest(), onlyEven), halfOfLargest(), multiples(2)[:32]},
	} {
		got, states, e := Trim(x.m)
		if !machines.Same(got, x.want) || !slices.Equal(states, x.states) || e != api.OK {
			t.Errorf("%s: %v, %v, error %d; want %v, %v", x.name, got, states, e, x.want, x.states)
		}
		if !samples.Full(got) || !full(states) {
			t.Errorf("%s: more capacity than length", x.name)
		}
	}
}

// onlyEven leaves to a machine only the edges that lead on by an even number of states if the input i leads on by i + 1.
func onlyEven(m *api.Machine) {
	for _, row := range m.Rows {
		for i := 0; i < m.Inputs; i += 2 {
			row[i] = none
		}
	}
}

// halfOfLargest returns the machine that is left of the largest one if only the even states are reached.
func halfOfLargest() api.Machine {
	m := samples.Machine(16, 16)
	for s := range 32 {
		row := slices.Repeat([]api.Edge{none}, 16)
		for i := 1; i < 16; i += 2 {
			row[i] = api.Edge{To: (s + (i+1)/2) % 32, Out: i}
		}
		m.Rows = append(m.Rows, row)
	}
	return m
}

// P6.4
func TestCanonical(t *testing.T) {
	for _, x := range []struct {
		name    string
		m, want api.Machine
	}{
		{"example", example(), samples.Machine(2, 2, []api.Edge{{To: 1, Out: 0}, {To: 0, Out: 1}}, []api.Edge{none, {To: 2, Out: 1}}, []api.Edge{{To: 1, Out: 0}, {To: 0, Out: 0}})},
		{"knot", knot(), samples.Machine(2, 2, []api.Edge{{To: 1, Out: 1}, {To: 2, Out: 0}}, []api.Edge{{To: 1, Out: 0}, {To: 3, Out: 1}}, []api.Edge{{To: 4, Out: 1}, {To: 3, Out: 1}}, []api.Edge{{To: 4, Out: 0}, {To: 0, Out: 0}}, []api.Edge{{To: 4, Out: 1}, none})},
		{"the states change their places", samples.Machine(2, 1, []api.Edge{{To: 2}, {To: 1}}, []api.Edge{none, {}}, []api.Edge{{To: 2}, none}), samples.Machine(2, 1, []api.Edge{{To: 1}, {To: 2}}, []api.Edge{{To: 1}, none}, []api.Edge{none, {}})},
		{"the initial state alone", samples.Machine(1, 2, []api.Edge{{Out: 1}}, []api.Edge{{}}), samples.Machine(1, 2, []api.Edge{{Out: 1}})},
		{"canonical", samples.Machine(2, 2, []api.Edge{none, {To: 1, Out: 1}}, []api.Edge{{}, {To: 1}}), samples.Machine(2, 2, []api.Edge{none, {To: 1, Out: 1}}, []api.Edge{{}, {To: 1}})},
		{"states that are equivalent stay two", samples.Machine(1, 1, []api.Edge{{To: 1}}, []api.Edge{{}}), samples.Machine(1, 1, []api.Edge{{To: 1}}, []api.Edge{{}})},
		{"outputs that do not occur", samples.Machine(1, 16, []api.Edge{none}), samples.Machine(1, 16, []api.Edge{none})},
		{"backwards", backwards(64), samples.Changed(samples.Ring(64), func(m *api.Machine) {
			m.Outputs = 1
			for s := range m.Rows {
				m.Rows[s][0].Out = 0
			}
		})},
		{"largest", samples.Largest(), samples.Largest()},
		{"largest in another order", numbered(samples.Largest(), multiples(5)), samples.Largest()},
		{"every other state of the largest in another order", numbered(samples.Changed(samples.Largest(), onlyEven), multiples(27)), halfOfLargest()},
	} {
		got, e := Canonical(x.m)
		if !machines.Same(got, x.want) || e != api.OK || !samples.Full(got) {
			t.Errorf("%s: %v, error %d; want %v", x.name, got, e, x.want)
		}
		is, e := IsCanonical(x.m)
		if is != machines.Same(x.m, x.want) || e != api.OK {
			t.Errorf("%s: IsCanonical is %v, error %d", x.name, is, e)
		}
		if is, e = IsCanonical(x.want); !is || e != api.OK {
			t.Errorf("%s: IsCanonical of the form is %v, error %d", x.name, is, e)
		}
	}
}

// P6.4
func TestIsCanonical(t *testing.T) {
	for _, x := range []struct {
		name string
		m    api.Machine
		want bool
	}{
		{"example", example(), false},
		{"knot", knot(), false},
		{"one state", samples.Machine(1, 1, []api.Edge{none}), true},
		{"two states", samples.Ring(2), true},
		{"in the order of the words, but with a state more", samples.Machine(1, 1, []api.Edge{{To: 1}}, []api.Edge{{}}, []api.Edge{{}}), false},
		{"a state less, in the midst", samples.Machine(1, 1, []api.Edge{{To: 2}}, []api.Edge{{}}, []api.Edge{{}}), false},
		{"connected, two states changed", samples.Machine(2, 1, []api.Edge{{To: 2}, {To: 1}}, []api.Edge{none, none}, []api.Edge{none, none}), false},
		{"the order of words, not of their first symbols", samples.Machine(2, 1, []api.Edge{{To: 1}, {To: 2}}, []api.Edge{{To: 3}, none}, []api.Edge{none, none}, []api.Edge{none, none}), true},
		{"the order of first symbols", samples.Machine(2, 1, []api.Edge{{To: 1}, {To: 3}}, []api.Edge{{To: 2}, none}, []api.Edge{none, none}, []api.Edge{none, none}), false},
		{"ring", samples.Ring(64), true},
		{"backwards", backwards(64), false},
	} {
		if got, e := IsCanonical(x.m); got != x.want || e != api.OK {
			t.Errorf("%s: %v, error %d; want %v", x.name, got, e, x.want)
		}
	}
}

// P6.3, P6.4
func TestFormsFollowTheDefinition(t *testing.T) {
	for _, m := range small() {
		states := reachedOf(m)
		trimmed, numbers, e := Trim(m)
		if !machines.Same(trimmed, formOf(m, states)) || !slices.Equal(numbers, states) || e != api.OK {
			t.Errorf("Trim(%v) = %v, %v, error %d", m, trimmed, numbers, e)
		}
		ordered := byPaths(m, states)
		canonical, e := Canonical(m)
		if !machines.Same(canonical, formOf(m, ordered)) || e != api.OK {
			t.Errorf("Canonical(%v) = %v, error %d", m, canonical, e)
		}
		is, e := IsCanonical(m)
		if is != (len(states) == len(m.Rows) && slices.Equal(ordered, states)) || e != api.OK {
			t.Errorf("IsCanonical(%v) = %v, error %d", m, is, e)
		}
	}
}

// P6.5
func TestIsomorphic(t *testing.T) {
	form, _ := Canonical(example())
	for _, x := range []struct {
		name string
		a, b api.Machine
		want []int
		is   bool
	}{
		{"example", example(), form, []int{0, -1, 1, 2}, true},
		{"example the other way", form, example(), []int{0, 2, 3}, true},
		{"itself", example(), example(), []int{0, -1, 2, 3}, true},
		{"connected, itself", knot(), knot(), []int{0, 1, 2, 3, 4}, true},
		{"another order", knot(), numbered(knot(), []int{0, 3, 1, 4, 2}), []int{0, 3, 1, 4, 2}, true},
		{"another initial state", knot(), numbered(knot(), []int{1, 0, 2, 3, 4}), nil, false},
		{"only what is not reached differs", example(), samples.Changed(example(), func(m *api.Machine) { m.Rows[1] = []api.Edge{none, {To: 1, Out: 1}} }), []int{0, -1, 2, 3}, true},
		{"one state against several", samples.Machine(1, 1, []api.Edge{{}}), samples.Machine(1, 1, []api.Edge{{}}, []api.Edge{{}}, []api.Edge{none}), []int{0}, true},
		{"several against one", samples.Machine(1, 1, []api.Edge{{}}, []api.Edge{{}}, []api.Edge{none}), samples.Machine(1, 1, []api.Edge{{}}), []int{0, -1, -1}, true},
		{"equivalent, with more states", samples.Machine(1, 1, []api.Edge{{}}), samples.Machine(1, 1, []api.Edge{{To: 1}}, []api.Edge{{}}), nil, false},
		{"equivalent, with fewer states", samples.Machine(1, 1, []api.Edge{{To: 1}}, []api.Edge{{}}), samples.Machine(1, 1, []api.Edge{{}}), nil, false},
		{"another state", knot(), samples.Changed(knot(), func(m *api.Machine) { m.Rows[2][1].To = 2 }), nil, false},
		{"another output", knot(), samples.Changed(knot(), func(m *api.Machine) { m.Rows[2][1].Out = 1 }), nil, false},
		{"an edge less", knot(), samples.Changed(knot(), func(m *api.Machine) { m.Rows[4][1] = none }), nil, false},
		{"an edge more", knot(), samples.Changed(knot(), func(m *api.Machine) { m.Rows[1][1] = api.Edge{To: 1} }), nil, false},
		{"more outputs", samples.Machine(1, 1, []api.Edge{{}}), samples.Machine(1, 2, []api.Edge{{}}), nil, false},
		{"fewer outputs", samples.Machine(1, 2, []api.Edge{none}), samples.Machine(1, 1, []api.Edge{none}), nil, false},
		{"more inputs", samples.Machine(1, 1, []api.Edge{{}}), samples.Machine(2, 1, []api.Edge{{}, {}}), nil, false},
		{"fewer inputs", samples.Machine(2, 1, []api.Edge{{}, none}), samples.Machine(1, 1, []api.Edge{{}}), nil, false},
		{"inputs and outputs exchanged", samples.Machine(1, 2, []api.Edge{none}), samples.Machine(2, 1, []api.Edge{none, none}), nil, false},
		{"ring", samples.Ring(64), numbered(samples.Ring(64), multiples(3)), multiples(3), true},
		{"backwards", backwards(64), numbered(backwards(64), multiples(63)), multiples(63), true},
		{"largest", samples.Largest(), numbered(samples.Largest(), multiples(45)), multiples(45), true},
		{"rings", samples.Ring(64), samples.Ring(63), nil, false},
	} {
		got, is, e := Isomorphic(x.a, x.b)
		if !slices.Equal(got, x.want) || is != x.is || e != api.OK || !full(got) {
			t.Errorf("%s: %v, %v, error %d, capacity %d; want %v, %v", x.name, got, is, e, cap(got), x.want, x.is)
		}
	}
}

// P6.5
func TestIsomorphicFollowsTheDefinition(t *testing.T) {
	all := slices.Concat(samples.All(1, 1, 2), samples.All(1, 2, 1), samples.All(2, 1, 2), samples.All(2, 2, 1), samples.All(3, 1, 1))
	for _, a := range all {
		for _, b := range all {
			want, there := correspondingOf(a, b)
			got, is, e := Isomorphic(a, b)
			if !slices.Equal(got, want) || is != there || e != api.OK {
				t.Errorf("%v and %v: %v, %v, error %d; want %v, %v", a, b, got, is, e, want, there)
			}
		}
	}
}

// P6.5
func TestIsomorphicChecksTheFirstMachineFirst(t *testing.T) {
	for _, x := range samples.Invalid() {
		if got, is, e := Isomorphic(x.M, example()); len(got) != 0 || is || e != x.Want {
			t.Errorf("first is %s: %v, %v, error %d; want error %d", x.Name, got, is, e, x.Want)
		}
		if got, is, e := Isomorphic(example(), x.M); len(got) != 0 || is || e != x.Want {
			t.Errorf("second is %s: %v, %v, error %d; want error %d", x.Name, got, is, e, x.Want)
		}
		for _, y := range samples.Invalid() {
			if got, is, e := Isomorphic(x.M, y.M); len(got) != 0 || is || e != x.Want {
				t.Errorf("%s and %s: %v, %v, error %d; want error %d", x.Name, y.Name, got, is, e, x.Want)
			}
		}
	}
}

// The error of the machine comes before that of a state.
// P6.1, P6.2, P6.3, P6.4
func TestTheMachineIsCheckedFirst(t *testing.T) {
	for _, x := range samples.Invalid() {
		if got, e := Reach(x.M); len(got) != 0 || e != x.Want {
			t.Errorf("Reach, %s: %v, error %d; want error %d", x.Name, got, e, x.Want)
		}
		if got, is, e := Access(x.M); len(got) != 0 || len(is) != 0 || e != x.Want {
			t.Errorf("Access, %s: %v, %v, error %d; want error %d", x.Name, got, is, e, x.Want)
		}
		if got, l, e := Trim(x.M); !samples.IsZero(got) || len(l) != 0 || e != x.Want {
			t.Errorf("Trim, %s: %v, %v, error %d; want error %d", x.Name, got, l, e, x.Want)
		}
		if got, e := Canonical(x.M); !samples.IsZero(got) || e != x.Want {
			t.Errorf("Canonical, %s: %v, error %d; want error %d", x.Name, got, e, x.Want)
		}
		if is, e := IsCanonical(x.M); is || e != x.Want {
			t.Errorf("IsCanonical, %s: %v, error %d; want error %d", x.Name, is, e, x.Want)
		}
		for _, s := range []int{0, -1, 64, math.MinInt, math.MaxInt} {
			if got, is, e := Path(x.M, s, s); len(got) != 0 || is || e != x.Want {
				t.Errorf("Path, %s: %v, %v, error %d; want error %d", x.Name, got, is, e, x.Want)
			}
			if got, e := Distances(x.M, s); len(got) != 0 || e != x.Want {
				t.Errorf("Distances, %s: %v, error %d; want error %d", x.Name, got, e, x.Want)
			}
		}
	}
}

// P6.6
func TestPrefixesOfAccessWordsAreAccessWords(t *testing.T) {
	for _, m := range append(small(), example(), knot(), samples.Ring(64), backwards(64), samples.Largest(), numbered(samples.Changed(samples.Largest(), onlyEven), multiples(11))) {
		paths, is, _ := Access(m)
		isAccess := func(w []int) bool {
			for s, v := range paths {
				if is[s] && slices.Equal(v, w) {
					return true
				}
			}
			return false
		}
		for s, w := range paths {
			for length := range len(w) {
				if !isAccess(w[:length]) {
					t.Errorf("%v: %d has the access word %v, but %v is none", m, s, w, w[:length])
				}
			}
		}
	}
}

// P6.6
func TestTheCanonicalFormHasEqualResponses(t *testing.T) {
	// Two machines with at most three states each that differ do so on a word of at most five symbols.
	all := slices.Collect(words.All(2, 5))
	for _, m := range append(small(), example(), knot()) {
		form, _ := Canonical(m)
		for _, w := range all {
			got, e := machines.Run(form, 0, w)
			want, f := machines.Run(m, 0, w)
			if !slices.Equal(got, want) || e != api.OK || f != api.OK {
				t.Errorf("%v answers %v with %v, its canonical form with %v; errors %d, %d", m, w, want, got, f, e)
			}
		}
		if again, e := Canonical(form); !machines.Same(again, form) || e != api.OK {
			t.Errorf("%v has the canonical form %v, and that has %v", m, form, again)
		}
		if is, e := IsCanonical(form); !is || e != api.OK {
			t.Errorf("%v has the canonical form %v, which is not canonical", m, form)
		}
	}
}

// P6.6
func TestTheCanonicalFormDoesNotDependOnNumbers(t *testing.T) {
	for _, m := range samples.All(3, 2, 1) {
		other := numbered(m, []int{0, 2, 1})
		a, _ := Canonical(m)
		b, _ := Canonical(other)
		if _, is, e := Isomorphic(m, other); !machines.Same(a, b) || !is || e != api.OK {
			t.Errorf("%v and %v have the canonical forms %v and %v; isomorphic is %v, error %d", m, other, a, b, is, e)
		}
	}
	for factor := 1; factor < 64; factor += 2 {
		for _, m := range []api.Machine{samples.Ring(64), backwards(64), samples.Largest(), samples.Changed(samples.Largest(), onlyEven)} {
			a, _ := Canonical(m)
			b, _ := Canonical(numbered(m, multiples(factor)))
			if !machines.Same(a, b) {
				t.Errorf("%v has another canonical form with the numbers multiplied by %d", m, factor)
			}
		}
	}
}

// Rules R1 and R4: arguments stay as they are, and results share memory neither with them nor with each other.
func TestArgumentsAreNeitherChangedNorShared(t *testing.T) {
	row := append(make([]api.Edge, 0, 8), api.Edge{To: 2}, api.Edge{To: 1})
	m := samples.Machine(2, 2, append(make([][]api.Edge, 0, 8), row, row, row)...)
	before := samples.Clone(m)
	want := samples.Machine(2, 2, []api.Edge{{To: 1}, {To: 2}}, []api.Edge{{To: 1}, {To: 2}}, []api.Edge{{To: 1}, {To: 2}})
	for range 2 {
		reached, _ := Reach(m)
		paths, is, _ := Access(m)
		path, _, _ := Path(m, 1, 2)
		lengths, _ := Distances(m, 1)
		trimmed, states, _ := Trim(m)
		canonical, _ := Canonical(m)
		like, _, _ := Isomorphic(m, m)
		IsCanonical(m)
		if !machines.Same(trimmed, before) || !machines.Same(canonical, want) || !slices.Equal(reached, []int{0, 1, 2}) || !slices.Equal(states, reached) || !slices.Equal(like, reached) {
			t.Errorf("%v, %v, %v, %v, %v", trimmed, canonical, reached, states, like)
		}
		if !slices.EqualFunc(paths, [][]int{nil, {1}, {0}}, slices.Equal) || !slices.Equal(is, []bool{true, true, true}) || !slices.Equal(path, []int{0}) || !slices.Equal(lengths, []int{-1, 0, 1}) {
			t.Errorf("%v, %v, %v, %v", paths, is, path, lengths)
		}
		// What is written into a result changes no other row of it, no argument, and no later result.
		for _, form := range []api.Machine{trimmed, canonical} {
			for s := range form.Rows {
				form.Rows[s][0] = api.Edge{To: 50 + s, Out: 99}
			}
			if form.Rows[0][0].To != 50 || form.Rows[1][0].To != 51 {
				t.Errorf("rows share their memory: %v", form)
			}
			form.Rows[0] = nil
		}
		reached[0], states[1], like[2], paths[1][0], is[0], path[0], lengths[0] = 99, 99, 99, 99, false, 99, 99
		paths[2] = nil
	}
	if !slices.EqualFunc(m.Rows, before.Rows, slices.Equal) || row[:3][2] != (api.Edge{}) || m.Rows[:4][3] != nil {
		t.Errorf("changed: %v", m)
	}
}
