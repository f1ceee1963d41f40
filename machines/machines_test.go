package machines

import (
	"math"
	"slices"
	"testing"

	"gauntlet/api"
	"gauntlet/samples"
	"gauntlet/words"
)

// none is the undefined edge.
var none = api.Edge{To: api.None, Out: api.None}

// example returns the machine of the chapter's examples.
func example() api.Machine {
	return samples.Machine(2, 2, []api.Edge{{To: 1, Out: 0}, {To: 0, Out: 1}}, []api.Edge{none, {To: 0, Out: 0}})
}

// changed returns the example after a change.
func changed(change func(m *api.Machine)) api.Machine {
	return samples.Changed(example(), change)
}

// equal reports whether machines have the same numbers and rows, valid or not.
func equal(a, b api.Machine) bool {
	return a.Inputs == b.Inputs && a.Outputs == b.Outputs && slices.EqualFunc(a.Rows, b.Rows, slices.Equal)
}

// small returns all machines with two states, two inputs and two outputs.
func small() []api.Machine {
	return samples.All(2, 2, 2)
}

// P4.1
func TestCheck(t *testing.T) {
	for _, x := range []struct {
		name string
		m    api.Machine
	}{
		{"example", example()},
		{"one state, one input, one output", samples.Machine(1, 1, []api.Edge{{}})},
		{"nothing defined", samples.Machine(1, 1, []api.Edge{none})},
		{"outputs that do not occur", samples.Machine(1, 16, []api.Edge{{}})},
		{"states that are not reached", samples.Machine(1, 1, []api.Edge{{}}, []api.Edge{{To: 1}}, []api.Edge{none})},
		{"rows in the same memory", samples.Machine(1, 1, slices.Repeat([][]api.Edge{{{To: 2}}}, 3)...)},
		{"most states", samples.Ring(64)},
		{"most of all", samples.Largest()},
	} {
		if e := Check(x.m); e != api.OK {
			t.Errorf("%s: error %d", x.name, e)
		}
	}
	for _, x := range samples.Invalid() {
		if e := Check(x.M); e != x.Want {
			t.Errorf("%s: error %d; want %d", x.Name, e, x.Want)
		}
	}
}

// P4.1
func TestCheckFollowsTheDefinition(t *testing.T) {
	var tried []api.Edge
	for to := -2; to <= 2; to++ {
		for out := -2; out <= 2; out++ {
			tried = append(tried, api.Edge{To: to, Out: out})
		}
	}
	right := samples.Edges(2, 2)
	for _, m := range slices.Concat(samples.Of(2, 1, 2, tried), samples.Of(1, 2, 2, tried)) {
		allowed := right
		if len(m.Rows) == 1 {
			allowed = samples.Edges(1, 2)
		}
		want := api.OK
		for _, row := range m.Rows {
			for _, x := range row {
				if !slices.Contains(allowed, x) {
					want = api.ErrArg
				}
			}
		}
		if e := Check(m); e != want {
			t.Errorf("Check(%v) = %d; want %d", m, e, want)
		}
	}
}

// P4.2
func TestShape(t *testing.T) {
	for _, x := range []struct {
		name                string
		m                   api.Machine
		complete, connected bool
		transitions         int
		undefined           [][2]int
	}{
		{"example", example(), false, true, 3, [][2]int{{1, 0}}},
		{"complete", changed(func(m *api.Machine) { m.Rows[1][0] = api.Edge{To: 1, Out: 1} }), true, true, 4, nil},
		{"nothing defined in one state", samples.Machine(2, 1, []api.Edge{none, none}), false, true, 0, [][2]int{{0, 0}, {0, 1}}},
		{"nothing defined in two states", samples.Machine(1, 1, []api.Edge{none}, []api.Edge{none}), false, false, 0, [][2]int{{0, 0}, {1, 0}}},
		{"a state that only leads back", samples.Machine(1, 1, []api.Edge{{}}, []api.Edge{{}}), true, false, 2, nil},
		{"a state that only itself leads to", samples.Machine(1, 1, []api.Edge{{}}, []api.Edge{{To: 1}}), true, false, 2, nil},
		{"an undefined edge does not lead", samples.Machine(1, 1, []api.Edge{none}, []api.Edge{{}}), false, false, 1, [][2]int{{0, 0}}},
		{"first edge undefined", changed(func(m *api.Machine) { m.Rows[0][0] = none }), false, false, 2, [][2]int{{0, 0}, {1, 0}}},
		{"states and inputs ascend", samples.Machine(3, 1, []api.Edge{{To: 1}, none, none}, []api.Edge{none, {To: 0}, none}), false, true, 2, [][2]int{{0, 1}, {0, 2}, {1, 0}, {1, 2}}},
		{"ring", samples.Ring(64), true, true, 64, nil},
		{"largest", samples.Largest(), true, true, 1024, nil},
	} {
		complete, e := Complete(x.m)
		connected, f := Connected(x.m)
		transitions, g := Transitions(x.m)
		undefined, h := Undefined(x.m)
		if e != api.OK || f != api.OK || g != api.OK || h != api.OK {
			t.Errorf("%s: errors %d, %d, %d, %d", x.name, e, f, g, h)
		}
		if complete != x.complete || connected != x.connected || transitions != x.transitions || !slices.Equal(undefined, x.undefined) {
			t.Errorf("%s: %v, %v, %d, %v; want %v, %v, %d, %v", x.name, complete, connected, transitions, undefined, x.complete, x.connected, x.transitions, x.undefined)
		}
		if cap(undefined) != len(undefined) {
			t.Errorf("%s: capacity %d of %d places", x.name, cap(undefined), len(undefined))
		}
	}
}

// P4.2
func TestConnectedInOtherOrders(t *testing.T) {
	// From 0 to the last state, and from each one to the state before it.
	backwards := samples.Machine(1, 1)
	for s := range 64 {
		backwards.Rows = append(backwards.Rows, []api.Edge{{To: (s + 63) % 64}})
	}
	star := samples.Machine(16, 1, make([]api.Edge, 16))
	for i := range 16 {
		star.Rows[0][i].To = i + 1
		star.Rows = append(star.Rows, slices.Repeat([]api.Edge{none}, 16))
	}
	for name, m := range map[string]api.Machine{"backwards": backwards, "star": star} {
		if connected, e := Connected(m); !connected || e != api.OK {
			t.Errorf("%s: %v, error %d", name, connected, e)
		}
		m.Rows[0][0] = none
		if connected, e := Connected(m); connected || e != api.OK {
			t.Errorf("%s without an edge: %v, error %d", name, connected, e)
		}
	}
	broken := samples.Ring(64)
	for s := range 63 {
		broken.Rows[s][0] = none
		if connected, e := Connected(broken); connected || e != api.OK {
			t.Errorf("ring without the edge of %d: %v, error %d", s, connected, e)
		}
		broken.Rows[s][0] = api.Edge{To: s + 1}
	}
	broken.Rows[63][0] = none
	if connected, e := Connected(broken); !connected || e != api.OK {
		t.Errorf("ring without its last edge: %v, error %d", connected, e)
	}
}

// P4.2
func TestShapeFollowsTheDefinition(t *testing.T) {
	for _, m := range samples.All(3, 2, 1) {
		var undefined [][2]int
		for s, row := range m.Rows {
			for i, x := range row {
				if x == none {
					undefined = append(undefined, [2]int{s, i})
				}
			}
		}
		// Of three states each is reached by a word of at most two symbols, or by none.
		reached := map[int]bool{}
		for w := range words.All(2, 2) {
			if s := stateAfter(m, 0, w); s != api.None {
				reached[s] = true
			}
		}
		complete, _ := Complete(m)
		connected, _ := Connected(m)
		transitions, _ := Transitions(m)
		got, _ := Undefined(m)
		if complete != (len(undefined) == 0) || connected != (len(reached) == 3) || transitions != 6-len(undefined) || !slices.Equal(got, undefined) {
			t.Errorf("%v: %v, %v, %d, %v", m, complete, connected, transitions, got)
		}
	}
}

// stateAfter returns by the definition the state after a word, or None.
func stateAfter(m api.Machine, s int, w []int) int {
	if len(w) == 0 || s == api.None {
		return s
	}
	return stateAfter(m, m.Rows[s][w[0]].To, w[1:])
}

// responseOf returns by the definition the response of a state to a word.
func responseOf(m api.Machine, s int, w []int) []int {
	var response []int
	for n, i := range w {
		out := api.None
		if before := stateAfter(m, s, w[:n]); before != api.None {
			out = m.Rows[before][i].Out
		}
		response = append(response, out)
	}
	return response
}

// P4.3
func TestStep(t *testing.T) {
	for _, x := range []struct {
		name string
		m    api.Machine
		s, i int
		want api.Edge
		e    api.Errno
	}{
		{"defined", example(), 0, 0, api.Edge{To: 1, Out: 0}, api.OK},
		{"defined, another input", example(), 0, 1, api.Edge{To: 0, Out: 1}, api.OK},
		{"undefined", example(), 1, 0, none, api.OK},
		{"last", example(), 1, 1, api.Edge{To: 0, Out: 0}, api.OK},
		{"last of the largest", samples.Largest(), 63, 15, api.Edge{To: 15, Out: 15}, api.OK},
		{"state too great", example(), 2, 0, api.Edge{}, api.ErrArg},
		{"state negative", example(), -1, 0, api.Edge{}, api.ErrArg},
		{"input too great", example(), 0, 2, api.Edge{}, api.ErrArg},
		{"input negative", example(), 0, -1, api.Edge{}, api.ErrArg},
		{"extreme state", example(), math.MinInt, 0, api.Edge{}, api.ErrArg},
		{"extreme input", example(), 0, math.MaxInt, api.Edge{}, api.ErrArg},
		{"input of another row", samples.Ring(3), 0, 1, api.Edge{}, api.ErrArg},
	} {
		if got, e := Step(x.m, x.s, x.i); got != x.want || e != x.e {
			t.Errorf("%s: %v, error %d; want %v, error %d", x.name, got, e, x.want, x.e)
		}
	}
}

// P4.3, P4.4
func TestStepAndRunFollowTheDefinition(t *testing.T) {
	all := slices.Collect(words.All(2, 4))
	for _, m := range small() {
		for s, row := range m.Rows {
			for i, x := range row {
				if got, e := Step(m, s, i); got != x || e != api.OK {
					t.Errorf("Step(%v, %d, %d) = %v, error %d", m, s, i, got, e)
				}
			}
			for _, w := range all {
				if got, e := Run(m, s, w); !slices.Equal(got, responseOf(m, s, w)) || e != api.OK {
					t.Errorf("Run(%v, %d, %v) = %v, error %d", m, s, w, got, e)
				}
				if got, e := After(m, s, w); got != stateAfter(m, s, w) || e != api.OK {
					t.Errorf("After(%v, %d, %v) = %d, error %d", m, s, w, got, e)
				}
			}
		}
	}
}

// P4.4
func TestRunAndAfter(t *testing.T) {
	for _, x := range []struct {
		name     string
		m        api.Machine
		s        int
		w        []int
		response []int
		after    int
	}{
		{"ordinary", example(), 0, []int{1, 0, 1, 1}, []int{1, 0, 0, 1}, 0},
		{"gets stuck", example(), 0, []int{0, 0, 1}, []int{0, -1, -1}, api.None},
		{"gets stuck at the end", example(), 0, []int{1, 0, 0}, []int{1, 0, -1}, api.None},
		{"gets stuck at once", example(), 1, []int{0}, []int{-1}, api.None},
		{"another state", example(), 1, []int{1, 1, 0}, []int{0, 1, 0}, 1},
		{"nil", example(), 1, nil, nil, 1},
		{"empty", example(), 0, []int{}, nil, 0},
		{"empty where nothing is defined", samples.Machine(1, 1, []api.Edge{none}), 0, nil, nil, 0},
		{"the whole ring", samples.Ring(3), 1, []int{0, 0, 0, 0}, []int{1, 2, 0, 1}, 2},
		{"longest", samples.Ring(64), 63, make([]int, 256), slices.Repeat(outsFrom(15, 16), 16), 63},
		{"longest that gets stuck", samples.Machine(1, 1, []api.Edge{none}), 0, make([]int, 256), slices.Repeat([]int{-1}, 256), api.None},
	} {
		response, e := Run(x.m, x.s, x.w)
		if e != api.OK || !slices.Equal(response, x.response) {
			t.Errorf("%s: response %v, error %d; want %v", x.name, response, e, x.response)
		}
		if cap(response) != len(response) {
			t.Errorf("%s: capacity %d of %d outputs", x.name, cap(response), len(response))
		}
		if after, e := After(x.m, x.s, x.w); e != api.OK || after != x.after {
			t.Errorf("%s: after it %d, error %d; want %d", x.name, after, e, x.after)
		}
	}
}

// outsFrom returns so many numbers, counted from one of them on, with 0 behind the greatest.
func outsFrom(first, count int) []int {
	var l []int
	for n := range count {
		l = append(l, (first+n)%count)
	}
	return l
}

// P4.4
func TestRunAndAfterRefuse(t *testing.T) {
	for _, x := range []struct {
		name string
		s    int
		w    []int
		want api.Errno
	}{
		{"state too great", 2, nil, api.ErrArg},
		{"state negative", -1, nil, api.ErrArg},
		{"None is no state", api.None, []int{0}, api.ErrArg},
		{"greatest state", math.MaxInt, nil, api.ErrArg},
		{"least state", math.MinInt, nil, api.ErrArg},
		{"symbol too great", 0, []int{0, 2}, api.ErrArg},
		{"symbol negative", 0, []int{-1}, api.ErrArg},
		{"symbol behind an undefined edge", 1, []int{0, 0, 2}, api.ErrArg},
		{"extreme symbols", 0, []int{math.MinInt, math.MaxInt}, api.ErrArg},
		{"too long", 0, make([]int, 257), api.ErrLimit},
		{"too long behind an undefined edge", 1, make([]int, 257), api.ErrLimit},
		{"too long before a symbol", 0, slices.Repeat([]int{9}, 300), api.ErrLimit},
		{"state before too long", 2, make([]int, 257), api.ErrArg},
		{"state before too long, negative", -1, make([]int, 257), api.ErrArg},
	} {
		if response, e := Run(example(), x.s, x.w); e != x.want || len(response) != 0 {
			t.Errorf("Run, %s: %v, error %d; want error %d", x.name, response, e, x.want)
		}
		if after, e := After(example(), x.s, x.w); e != x.want || after != 0 {
			t.Errorf("After, %s: %d, error %d; want error %d", x.name, after, e, x.want)
		}
	}
}

// P4.5
func TestWith(t *testing.T) {
	for _, x := range []struct {
		name string
		s, i int
		x    api.Edge
		want []api.Edge
	}{
		{"an undefined edge becomes defined", 1, 0, api.Edge{To: 1, Out: 1}, []api.Edge{{To: 1, Out: 0}, {To: 0, Out: 1}, {To: 1, Out: 1}, {To: 0, Out: 0}}},
		{"a defined edge becomes undefined", 0, 0, none, []api.Edge{none, {To: 0, Out: 1}, none, {To: 0, Out: 0}}},
		{"another state and output", 0, 1, api.Edge{To: 1, Out: 0}, []api.Edge{{To: 1, Out: 0}, {To: 1, Out: 0}, none, {To: 0, Out: 0}}},
		{"the same edge", 1, 1, api.Edge{To: 0, Out: 0}, []api.Edge{{To: 1, Out: 0}, {To: 0, Out: 1}, none, {To: 0, Out: 0}}},
	} {
		m := example()
		got, e := With(m, x.s, x.i, x.x)
		if e != api.OK || !equal(got, samples.Machine(2, 2, x.want[:2], x.want[2:])) {
			t.Errorf("%s: %v, error %d", x.name, got, e)
		}
		if !equal(m, example()) {
			t.Errorf("%s: the argument is %v", x.name, m)
		}
		if complete, _ := Complete(got); complete != (x.s == 1 && x.i == 0) {
			t.Errorf("%s: complete is %v", x.name, complete)
		}
	}
	got, e := With(samples.Largest(), 63, 15, none)
	undefined, _ := Undefined(got)
	if e != api.OK || !slices.Equal(undefined, [][2]int{{63, 15}}) {
		t.Errorf("largest: error %d, undefined %v", e, undefined)
	}
}

// P4.5
func TestWithRefuses(t *testing.T) {
	for _, x := range []struct {
		name string
		s, i int
		x    api.Edge
	}{
		{"state too great", 2, 0, none},
		{"state negative", -1, 0, none},
		{"extreme state", math.MinInt, 0, none},
		{"input too great", 0, 2, none},
		{"input negative", 0, -1, none},
		{"extreme input", 1, math.MaxInt, none},
		{"to a state too great", 1, 0, api.Edge{To: 2, Out: 0}},
		{"to a state that is negative", 1, 0, api.Edge{To: -2, Out: 0}},
		{"an output too great", 0, 0, api.Edge{To: 0, Out: 2}},
		{"an output that is negative", 0, 0, api.Edge{To: 0, Out: -2}},
		{"no state, but an output", 1, 0, api.Edge{To: api.None, Out: 0}},
		{"a state, but no output", 1, 0, api.Edge{To: 0, Out: api.None}},
		{"neither, but not None", 0, 0, api.Edge{To: -2, Out: -2}},
		{"extreme edge", 1, 1, api.Edge{To: math.MaxInt, Out: math.MinInt}},
	} {
		m := example()
		if got, e := With(m, x.s, x.i, x.x); e != api.ErrArg || !equal(got, api.Machine{}) {
			t.Errorf("%s: %v, error %d", x.name, got, e)
		}
		if !equal(m, example()) {
			t.Errorf("%s: the argument is %v", x.name, m)
		}
	}
}

// P4.5
func TestSame(t *testing.T) {
	valid := []api.Machine{
		example(),
		changed(func(m *api.Machine) { m.Outputs = 3 }),
		changed(func(m *api.Machine) { m.Rows[0][0].Out = 1 }),
		changed(func(m *api.Machine) { m.Rows[0][0].To = 0 }),
		changed(func(m *api.Machine) { m.Rows[1][1] = none }),
		changed(func(m *api.Machine) { m.Rows[1][1].Out = 1 }),
		changed(func(m *api.Machine) { m.Rows = append(m.Rows, []api.Edge{none, none}) }),
		changed(func(m *api.Machine) { m.Rows[0], m.Rows[1] = m.Rows[1], m.Rows[0] }),
		samples.Machine(1, 2, []api.Edge{{}}),
		samples.Machine(2, 2, []api.Edge{{}, {}}),
		samples.Machine(1, 2, []api.Edge{{}}, []api.Edge{{}}),
		samples.Machine(2, 2, []api.Edge{{}, {}}, []api.Edge{{}, {}}),
		samples.Ring(63),
		samples.Ring(64),
		samples.Largest(),
	}
	for i, a := range valid {
		for k, b := range valid {
			if Same(a, samples.Clone(b)) != (i == k) {
				t.Errorf("Same(%v, %v) = %v", a, b, i != k)
			}
		}
		if !Same(a, a) {
			t.Errorf("not the same as itself: %v", a)
		}
	}
	for _, x := range samples.Invalid() {
		if Same(x.M, x.M) || Same(x.M, samples.Clone(x.M)) || Same(x.M, example()) || Same(example(), x.M) {
			t.Errorf("%s: Same is true", x.Name)
		}
	}
}

// The error of the machine comes before those of a state, an input, a word or an edge.
// P4.2, P4.3, P4.4, P4.5
func TestTheMachineIsCheckedFirst(t *testing.T) {
	for _, x := range samples.Invalid() {
		if complete, e := Complete(x.M); complete || e != x.Want {
			t.Errorf("Complete, %s: %v, error %d; want error %d", x.Name, complete, e, x.Want)
		}
		if connected, e := Connected(x.M); connected || e != x.Want {
			t.Errorf("Connected, %s: %v, error %d; want error %d", x.Name, connected, e, x.Want)
		}
		if count, e := Transitions(x.M); count != 0 || e != x.Want {
			t.Errorf("Transitions, %s: %d, error %d; want error %d", x.Name, count, e, x.Want)
		}
		if places, e := Undefined(x.M); len(places) != 0 || e != x.Want {
			t.Errorf("Undefined, %s: %v, error %d; want error %d", x.Name, places, e, x.Want)
		}
		for _, s := range []int{0, -1, 64, math.MinInt, math.MaxInt} {
			if edge, e := Step(x.M, s, s); edge != (api.Edge{}) || e != x.Want {
				t.Errorf("Step, %s: %v, error %d; want error %d", x.Name, edge, e, x.Want)
			}
			if m, e := With(x.M, s, s, api.Edge{To: 99, Out: s}); !equal(m, api.Machine{}) || e != x.Want {
				t.Errorf("With, %s: %v, error %d; want error %d", x.Name, m, e, x.Want)
			}
			for _, w := range [][]int{nil, {0}, {-1}, make([]int, 257)} {
				if response, e := Run(x.M, s, w); len(response) != 0 || e != x.Want {
					t.Errorf("Run, %s: %v, error %d; want error %d", x.Name, response, e, x.Want)
				}
				if after, e := After(x.M, s, w); after != 0 || e != x.Want {
					t.Errorf("After, %s: %d, error %d; want error %d", x.Name, after, e, x.Want)
				}
			}
		}
	}
}

// ask returns the response of a state to a word, and the state after it; of None, None throughout.
func ask(t *testing.T, m api.Machine, s int, w []int) ([]int, int) {
	if s == api.None {
		return slices.Repeat([]int{api.None}, len(w)), api.None
	}
	response, e := Run(m, s, w)
	after, f := After(m, s, w)
	if e != api.OK || f != api.OK {
		t.Fatalf("%v from %d with %v: errors %d and %d", m, s, w, e, f)
	}
	return response, after
}

// P4.6
func TestResponsesFollowEachOther(t *testing.T) {
	all := slices.Collect(words.All(2, 3))
	for _, m := range small() {
		for s := range m.Rows {
			for _, v := range all {
				first, between := ask(t, m, s, v)
				for _, w := range all {
					second, end := ask(t, m, between, w)
					both, last := ask(t, m, s, slices.Concat(v, w))
					if !slices.Equal(both, slices.Concat(first, second)) || last != end {
						t.Errorf("%v from %d: %v with %v, then %v with %v, together %v", m, s, v, first, w, second, both)
					}
					if !words.Prefix(first, both) {
						t.Errorf("%v from %d: %v is not a prefix of %v", m, s, first, both)
					}
				}
			}
		}
	}
}

// P4.6
func TestCompleteMachinesHaveNoNone(t *testing.T) {
	all := slices.Collect(words.All(2, 4))
	for _, m := range small() {
		stuck := false
		for s := range m.Rows {
			for _, w := range all {
				response, after := ask(t, m, s, w)
				stuck = stuck || slices.Contains(response, api.None) || after == api.None
			}
		}
		if complete, e := Complete(m); complete == stuck || e != api.OK {
			t.Errorf("%v: complete is %v, None in a response is %v", m, complete, stuck)
		}
	}
	long, _ := ask(t, samples.Largest(), 5, slices.Repeat([]int{15, 0}, 128))
	if !slices.Equal(long, slices.Repeat([]int{15, 0}, 128)) {
		t.Errorf("largest: %v", long)
	}
}

// Rules R1 and R4: arguments stay as they are, and results share memory neither with them nor with each other.
func TestArgumentsAreNeitherChangedNorShared(t *testing.T) {
	row := append(make([]api.Edge, 0, 8), api.Edge{To: 1}, none)
	m := samples.Machine(2, 2, append(make([][]api.Edge, 0, 8), row, row)...)
	w := append(make([]int, 0, 8), 0, 0, 1)
	before, word := samples.Clone(m), slices.Clone(w)
	with, _ := With(m, 1, 1, api.Edge{Out: 1})
	again, _ := With(m, 1, 1, api.Edge{Out: 1})
	run, _ := Run(m, 0, w)
	twice, _ := Run(m, 0, w)
	undefined, _ := Undefined(m)
	Check(m)
	Complete(m)
	Connected(m)
	Transitions(m)
	Step(m, 0, 0)
	After(m, 0, w)
	Same(m, with)
	if cap(with.Rows) != len(with.Rows) || slices.ContainsFunc(with.Rows, func(r []api.Edge) bool { return cap(r) != len(r) }) {
		t.Errorf("With: more capacity than length")
	}
	if with.Rows[0][1] != none || with.Rows[1][1] != (api.Edge{Out: 1}) {
		t.Errorf("rows share their memory: %v", with)
	}
	for s := range with.Rows {
		with.Rows[s][0] = api.Edge{To: 50 + s, Out: 99}
	}
	with.Rows[0] = nil
	run[0], undefined[0] = 99, [2]int{99, 99}
	if !equal(m, before) || !slices.Equal(w, word) || row[:3][2] != (api.Edge{}) || w[:4][3] != 0 {
		t.Errorf("changed: %v, %v", m, w)
	}
	if !equal(again, samples.Machine(2, 2, []api.Edge{{To: 1}, none}, []api.Edge{{To: 1}, {Out: 1}})) || !slices.Equal(twice, []int{0, 0, -1}) {
		t.Errorf("results share their memory: %v, %v", again, twice)
	}
}
