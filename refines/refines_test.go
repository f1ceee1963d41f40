package refines

import (
	"math"
	"slices"
	"testing"

	"gauntlet/api"
	"gauntlet/classes"
	"gauntlet/machines"
	"gauntlet/samples"
	"gauntlet/words"
)

// none is the undefined edge.
var none = api.Edge{To: api.None, Out: api.None}

// example returns the machine of the chapter's examples.
func example() api.Machine {
	return samples.Machine(2, 2,
		[]api.Edge{{To: 1, Out: 0}, {To: 2, Out: 0}},
		[]api.Edge{{To: 1, Out: 0}, {To: 3, Out: 0}},
		[]api.Edge{{To: 2, Out: 0}, {To: 0, Out: 1}},
		[]api.Edge{{To: 3, Out: 0}, {To: 1, Out: 1}})
}

// upTo returns the numbers from 0 to n - 1: the partition in which each is alone.
func upTo(n int) []int {
	l := make([]int, n)
	for i := range l {
		l[i] = i
	}
	return l
}

// setApart returns the partition of n numbers in which the last ones, fewer than n, are each alone, and the others together.
func setApart(n, last int) []int {
	l := make([]int, n)
	for i := range l {
		l[i] = max(0, i-(n-last)+1)
	}
	return l
}

// everyOther returns the partition of n numbers by their remainders.
func everyOther(n, remainders int) []int {
	l := make([]int, n)
	for i := range l {
		l[i] = i % remainders
	}
	return l
}

// allPartitions returns all partitions of n numbers.
func allPartitions(n int) [][]int {
	all := [][]int{{}}
	for range n {
		var longer [][]int
		for _, p := range all {
			count, _ := classes.Count(p)
			for block := range count + 1 {
				longer = append(longer, append(slices.Clone(p), block))
			}
		}
		all = longer
	}
	return all
}

// classesOf returns by the definition the partition by equivalence up to k: the first state with its responses stands for each.
func classesOf(t *testing.T, m api.Machine, k int) []int {
	t.Helper()
	responses := make([][]int, len(m.Rows))
	stands := make([]int, len(m.Rows))
	for s := range m.Rows {
		for w := range words.All(m.Inputs, k) {
			response, e := machines.Run(m, s, w)
			if e != api.OK {
				t.Fatalf("%v from %d with %v: error %d", m, s, w, e)
			}
			responses[s] = append(responses[s], response...)
		}
		stands[s] = slices.IndexFunc(responses, func(r []int) bool { return slices.Equal(r, responses[s]) })
	}
	p, e := classes.Of(stands)
	if e != api.OK {
		t.Fatalf("%v: error %d", m, e)
	}
	return p
}

// respectsOf reports by the definition whether a machine respects a partition of its states.
func respectsOf(m api.Machine, p []int) bool {
	for s, row := range m.Rows {
		for u, other := range m.Rows {
			for i, x := range row {
				y := other[i]
				if p[s] != p[u] || x == none && y == none {
					continue
				}
				if x == none || y == none || x.Out != y.Out || p[x.To] != p[y.To] {
					return false
				}
			}
		}
	}
	return true
}

// P7.1
func TestRounds(t *testing.T) {
	ring := samples.Machine(1, 2, []api.Edge{{To: 1, Out: 0}}, []api.Edge{{To: 2, Out: 1}}, []api.Edge{{To: 3, Out: 0}}, []api.Edge{{To: 4, Out: 0}}, []api.Edge{{To: 5, Out: 1}}, []api.Edge{{To: 0, Out: 0}})
	for _, x := range []struct {
		name string
		m    api.Machine
		k    int
		want []int
	}{
		{"example", example(), 0, []int{0, 0, 0, 0}},
		{"example", example(), 1, []int{0, 0, 1, 1}},
		{"example", example(), 5, []int{0, 0, 1, 1}},
		{"ring of six", ring, 0, make([]int, 6)},
		{"ring of six", ring, 1, []int{0, 1, 0, 0, 1, 0}},
		{"ring of six", ring, 2, []int{0, 1, 2, 0, 1, 2}},
		{"ring of six", ring, 3, []int{0, 1, 2, 0, 1, 2}},
		{"one state", samples.Machine(1, 1, []api.Edge{{}}), 0, []int{0}},
		{"one state", samples.Machine(1, 1, []api.Edge{none}), math.MaxInt, []int{0}},
		{"nothing defined", samples.Machine(1, 1, []api.Edge{none}, []api.Edge{none}), 9, []int{0, 0}},
		{"undefined is not an output", samples.Machine(1, 1, []api.Edge{none}, []api.Edge{{To: 0}}, []api.Edge{{To: 1}}), 1, []int{0, 1, 1}},
		{"undefined later", samples.Machine(1, 1, []api.Edge{none}, []api.Edge{{To: 0}}, []api.Edge{{To: 1}}), 2, []int{0, 1, 2}},
		{"states that are not reached", samples.Machine(1, 2, []api.Edge{{}}, []api.Edge{{To: 1, Out: 1}}, []api.Edge{{To: 2}}), 1, []int{0, 1, 0}},
		{"blocks in the order of their least states", samples.Machine(1, 3, []api.Edge{{Out: 2}}, []api.Edge{{Out: 0}}, []api.Edge{{Out: 2}}, []api.Edge{{Out: 1}}), 1, []int{0, 1, 0, 2}},
		{"an output of the last input", samples.Machine(3, 2, []api.Edge{{}, {}, {Out: 1}}, []api.Edge{{}, {}, {}}), 1, []int{0, 1}},
		{"an output of the first input", samples.Machine(3, 2, []api.Edge{{}, {}, {}}, []api.Edge{{Out: 1}, {}, {}}), 1, []int{0, 1}},
		{"chain", samples.Chain(64), 0, make([]int, 64)},
		{"chain", samples.Chain(64), 1, setApart(64, 1)},
		{"chain", samples.Chain(64), 30, setApart(64, 30)},
		{"chain", samples.Chain(64), 62, append([]int{0}, upTo(63)...)},
		{"chain", samples.Chain(64), 63, upTo(64)},
		{"chain", samples.Chain(64), 64, upTo(64)},
		{"chain", samples.Chain(64), math.MaxInt, upTo(64)},
		{"largest", samples.Largest(), 99, make([]int, 64)},
		{"largest, an edge less", samples.LargestBut(none), 1, setApart(64, 1)},
		{"largest, another output", samples.LargestBut(api.Edge{To: 15, Out: 14}), 1, setApart(64, 1)},
	} {
		got, e := Rounds(x.m, x.k)
		if !slices.Equal(got, x.want) || e != api.OK || cap(got) != len(got) {
			t.Errorf("%s up to %d: %v, error %d, capacity %d; want %v", x.name, x.k, got, e, cap(got), x.want)
		}
	}
}

// P7.1
func TestRoundsRefusesNegativeNumbers(t *testing.T) {
	for _, k := range []int{-1, -2, math.MinInt} {
		for _, m := range []api.Machine{example(), samples.Largest(), samples.Machine(1, 1, []api.Edge{{}})} {
			if got, e := Rounds(m, k); len(got) != 0 || e != api.ErrArg {
				t.Errorf("up to %d: %v, error %d", k, got, e)
			}
		}
	}
}

// P7.1
func TestRoundsFollowsTheDefinition(t *testing.T) {
	for _, m := range append(samples.Small(), example()) {
		for k := range 5 {
			got, e := Rounds(m, k)
			if want := classesOf(t, m, k); !slices.Equal(got, want) || e != api.OK {
				t.Errorf("Rounds(%v, %d) = %v, error %d; want %v", m, k, got, e, want)
			}
		}
	}
}

// P7.2
func TestClasses(t *testing.T) {
	for _, x := range []struct {
		name   string
		m      api.Machine
		want   []int
		rounds int
	}{
		{"example", example(), []int{0, 0, 1, 1}, 1},
		{"one state", samples.Machine(1, 1, []api.Edge{{}}), []int{0}, 0},
		{"one state without edges", samples.Machine(2, 3, []api.Edge{none, none}), []int{0}, 0},
		{"all equivalent", samples.Machine(1, 2, []api.Edge{{To: 1, Out: 1}}, []api.Edge{{To: 2, Out: 1}}, []api.Edge{{To: 1, Out: 1}}), []int{0, 0, 0}, 0},
		{"nothing defined", samples.Machine(1, 1, []api.Edge{none}, []api.Edge{none}), []int{0, 0}, 0},
		{"the toggle", samples.Machine(1, 2, []api.Edge{{To: 1, Out: 0}}, []api.Edge{{To: 0, Out: 1}}), []int{0, 1}, 1},
		{"two states that lead to one without edges", samples.Machine(1, 1, []api.Edge{{To: 1}}, []api.Edge{none}, []api.Edge{{To: 2}}, []api.Edge{none}, []api.Edge{{To: 3}}), []int{0, 1, 2, 1, 0}, 2},
		{"chain of two", samples.Chain(2), []int{0, 1}, 1},
		{"chain", samples.Chain(64), upTo(64), 63},
		{"ring", samples.Ring(64), everyOther(64, 16), 1},
		{"ring of 63: no two states are alike", samples.Ring(63), upTo(63), 48},
		{"largest", samples.Largest(), make([]int, 64), 0},
		{"largest, an edge less: the first states need four symbols to come to it", samples.LargestBut(none), upTo(64), 5},
	} {
		got, rounds, e := Classes(x.m)
		if !slices.Equal(got, x.want) || rounds != x.rounds || e != api.OK || cap(got) != len(got) {
			t.Errorf("%s: %v after %d, error %d, capacity %d; want %v after %d", x.name, got, rounds, e, cap(got), x.want, x.rounds)
		}
	}
}

// P7.2, P7.3
func TestClassesFollowTheDefinition(t *testing.T) {
	for _, m := range append(samples.Small(), example()) {
		// With at most four states, words of three symbols tell apart all that can be told apart; these are of five.
		want := classesOf(t, m, 5)
		least := 0
		for !slices.Equal(classesOf(t, m, least), want) {
			least++
		}
		got, rounds, e := Classes(m)
		if !slices.Equal(got, want) || rounds != least || e != api.OK {
			t.Errorf("Classes(%v) = %v after %d, error %d; want %v after %d", m, got, rounds, e, want, least)
		}
		for s := range m.Rows {
			for u := range m.Rows {
				if is, e := Equivalent(m, s, u); is != (want[s] == want[u]) || e != api.OK {
					t.Errorf("Equivalent(%v, %d, %d) = %v, error %d", m, s, u, is, e)
				}
			}
		}
	}
}

// P7.3
func TestEquivalent(t *testing.T) {
	for _, x := range []struct {
		name string
		m    api.Machine
		s, t int
		want bool
	}{
		{"example", example(), 0, 1, true},
		{"example the other way", example(), 1, 0, true},
		{"example, last states", example(), 2, 3, true},
		{"example, not alike", example(), 1, 2, false},
		{"itself", example(), 3, 3, true},
		{"one state", samples.Machine(1, 1, []api.Edge{none}), 0, 0, true},
		{"the first state and the last one", samples.Chain(64), 0, 63, false},
		{"as late as possible", samples.Chain(64), 0, 1, false},
		{"ring", samples.Ring(64), 3, 51, true},
		{"ring, not alike", samples.Ring(64), 3, 52, false},
		{"largest", samples.Largest(), 0, 63, true},
		{"largest, an edge less", samples.LargestBut(none), 1, 2, false},
	} {
		if got, e := Equivalent(x.m, x.s, x.t); got != x.want || e != api.OK {
			t.Errorf("%s: %v, error %d; want %v", x.name, got, e, x.want)
		}
	}
}

// P7.3
func TestEquivalentRefusesStatesThatAreNot(t *testing.T) {
	for _, s := range []int{4, -1, 64, math.MinInt, math.MaxInt} {
		for _, pair := range [][2]int{{s, 0}, {0, s}, {s, 3}, {3, s}, {s, s}} {
			if got, e := Equivalent(example(), pair[0], pair[1]); got || e != api.ErrArg {
				t.Errorf("%v: %v, error %d", pair, got, e)
			}
		}
	}
	for _, pair := range [][2]int{{64, 64}, {63, 64}, {-1, 64}, {64, -1}, {math.MinInt, math.MaxInt}} {
		if got, e := Equivalent(samples.Largest(), pair[0], pair[1]); got || e != api.ErrArg {
			t.Errorf("largest, %v: %v, error %d", pair, got, e)
		}
	}
}

// P7.4
func TestRespects(t *testing.T) {
	for _, x := range []struct {
		name string
		m    api.Machine
		p    []int
		want bool
	}{
		{"example, equivalence", example(), []int{0, 0, 1, 1}, true},
		{"example, each alone", example(), []int{0, 1, 2, 3}, true},
		{"example, next states apart", example(), []int{0, 0, 1, 2}, false},
		{"example, other outputs", example(), []int{0, 0, 0, 0}, false},
		{"example, other outputs, each next state in its block", example(), []int{0, 1, 0, 1}, false},
		{"one state", samples.Machine(1, 1, []api.Edge{{}}), []int{0}, true},
		{"one state without edges", samples.Machine(1, 1, []api.Edge{none}), []int{0}, true},
		{"both edges undefined", samples.Machine(1, 1, []api.Edge{none}, []api.Edge{none}), []int{0, 0}, true},
		{"the first edge undefined", samples.Machine(1, 1, []api.Edge{none}, []api.Edge{{}}), []int{0, 0}, false},
		{"the second edge undefined", samples.Machine(1, 1, []api.Edge{{}}, []api.Edge{none}), []int{0, 0}, false},
		{"the last edge undefined", samples.Machine(2, 1, []api.Edge{{}, none}, []api.Edge{{}, {}}), []int{0, 0}, false},
		{"the states change their places", samples.Machine(1, 1, []api.Edge{{To: 1}}, []api.Edge{{To: 0}}), []int{0, 0}, true},
		{"finer than equivalence", samples.Ring(64), everyOther(64, 32), true},
		{"equivalence", samples.Ring(64), everyOther(64, 16), true},
		{"coarser than equivalence", samples.Ring(64), everyOther(64, 8), false},
		{"chain", samples.Chain(64), append([]int{0}, upTo(63)...), false},
		{"chain, each alone", samples.Chain(64), upTo(64), true},
		{"largest", samples.Largest(), make([]int, 64), true},
		{"largest, remainders", samples.Largest(), everyOther(64, 4), true},
		{"largest, one alone", samples.Largest(), setApart(64, 1), false},
		{"largest, an edge less", samples.LargestBut(none), make([]int, 64), false},
		{"largest, another output", samples.LargestBut(api.Edge{To: 15, Out: 14}), make([]int, 64), false},
		{"largest, another state in the same block", samples.LargestBut(api.Edge{To: 11, Out: 15}), everyOther(64, 4), true},
		{"largest, another state in another block", samples.LargestBut(api.Edge{To: 12, Out: 15}), everyOther(64, 4), false},
	} {
		if got, e := Respects(x.m, x.p); got != x.want || e != api.OK {
			t.Errorf("%s: %v, error %d; want %v", x.name, got, e, x.want)
		}
	}
}

// P7.4
func TestRespectsRefuses(t *testing.T) {
	for _, x := range []struct {
		name string
		p    []int
		want api.Errno
	}{
		{"too few numbers", []int{0, 1}, api.ErrCount},
		{"one number too few", []int{0, 0, 1}, api.ErrCount},
		{"one number too many", []int{0, 0, 1, 1, 1}, api.ErrCount},
		{"nil", nil, api.ErrCount},
		{"empty", []int{}, api.ErrCount},
		{"as many as there may be", make([]int, 256), api.ErrCount},
		{"does not begin with 0", []int{1, 0, 0, 0}, api.ErrArg},
		{"leaves out a block", []int{0, 0, 2, 2}, api.ErrArg},
		{"negative", []int{0, 0, 1, -1}, api.ErrArg},
		{"extreme", []int{0, math.MaxInt, math.MinInt, 0}, api.ErrArg},
		{"not valid before the count", []int{1}, api.ErrArg},
		{"not valid and too many", []int{0, 0, 1, 1, 3}, api.ErrArg},
		{"above the limit", make([]int, 257), api.ErrLimit},
		{"above the limit and not valid", slices.Repeat([]int{-1}, 257), api.ErrLimit},
	} {
		if got, e := Respects(example(), x.p); got || e != x.want {
			t.Errorf("%s: %v, error %d; want error %d", x.name, got, e, x.want)
		}
	}
}

// P7.4
func TestRespectsFollowsTheDefinition(t *testing.T) {
	for _, m := range append(samples.Small(), example()) {
		for _, p := range allPartitions(len(m.Rows)) {
			if got, e := Respects(m, p); got != respectsOf(m, p) || e != api.OK {
				t.Errorf("Respects(%v, %v) = %v, error %d", m, p, got, e)
			}
		}
	}
}

// P7.1, P7.2, P7.3, P7.4
func TestTheMachineIsCheckedFirst(t *testing.T) {
	for _, x := range samples.Invalid() {
		if p, rounds, e := Classes(x.M); len(p) != 0 || rounds != 0 || e != x.Want {
			t.Errorf("Classes, %s: %v after %d, error %d; want error %d", x.Name, p, rounds, e, x.Want)
		}
		for _, n := range []int{0, 1, -1, 64, math.MinInt, math.MaxInt} {
			if p, e := Rounds(x.M, n); len(p) != 0 || e != x.Want {
				t.Errorf("Rounds, %s: %v, error %d; want error %d", x.Name, p, e, x.Want)
			}
			if is, e := Equivalent(x.M, n, n); is || e != x.Want {
				t.Errorf("Equivalent, %s: %v, error %d; want error %d", x.Name, is, e, x.Want)
			}
		}
		for _, p := range [][]int{nil, {0}, {0, 0}, {0, 1}, {1}, make([]int, 256), make([]int, 257)} {
			if is, e := Respects(x.M, p); is || e != x.Want {
				t.Errorf("Respects of %v, %s: %v, error %d; want error %d", p, x.Name, is, e, x.Want)
			}
		}
	}
}

// rounds returns the partitions by equivalence up to 0, 1 and so on: one more than there are states.
func rounds(t *testing.T, m api.Machine) [][]int {
	t.Helper()
	var all [][]int
	for k := range len(m.Rows) + 1 {
		p, e := Rounds(m, k)
		if e != api.OK || classes.Check(p) != api.OK || len(p) != len(m.Rows) {
			t.Fatalf("Rounds(%v, %d) = %v, error %d", m, k, p, e)
		}
		all = append(all, p)
	}
	return all
}

// P7.5
func TestEachRoundIsFiner(t *testing.T) {
	for _, m := range append(append(samples.Small(), samples.Large()...), example()) {
		all := rounds(t, m)
		p, last, e := Classes(m)
		if e != api.OK || last > len(m.Rows)-1 {
			t.Fatalf("Classes(%v) = %v after %d, error %d", m, p, last, e)
		}
		for k := 1; k < len(all); k++ {
			if finer, e := classes.Finer(all[k], all[k-1]); !finer || e != api.OK {
				t.Errorf("%v: up to %d %v, up to %d %v", m, k-1, all[k-1], k, all[k])
			}
			if same := slices.Equal(all[k], all[k-1]); same != (k > last) {
				t.Errorf("%v: up to %d %v, up to %d %v, but the last one is %d", m, k-1, all[k-1], k, all[k], last)
			}
		}
		if !slices.Equal(all[len(all)-1], p) {
			t.Errorf("%v: Rounds ends with %v, Classes is %v", m, all[len(all)-1], p)
		}
	}
}

// P7.5
func TestEquivalenceIsTheCoarsestThatIsRespected(t *testing.T) {
	for _, m := range append(append(samples.Small(), samples.Large()...), example()) {
		p, _, e := Classes(m)
		if is, f := Respects(m, p); !is || e != api.OK || f != api.OK {
			t.Errorf("%v: %v is not respected; errors %d, %d", m, p, e, f)
		}
	}
	for _, m := range append(samples.Small(), example()) {
		p, _, _ := Classes(m)
		for _, q := range allPartitions(len(m.Rows)) {
			is, _ := Respects(m, q)
			if finer, e := classes.Finer(q, p); is && !finer || e != api.OK {
				t.Errorf("%v: %v is respected, but not finer than %v", m, q, p)
			}
		}
	}
	for n := 1; n <= 64; n++ {
		is, e := Respects(samples.Ring(64), everyOther(64, n))
		if is != (n == 16 || n == 32 || n == 64) || e != api.OK {
			t.Errorf("ring: respects remainders of %d is %v, error %d", n, is, e)
		}
	}
}

// P7.5
func TestJoinsOfRespectedPartitionsAreRespected(t *testing.T) {
	for _, m := range append(samples.Small(), example()) {
		respected := slices.DeleteFunc(allPartitions(len(m.Rows)), func(p []int) bool {
			is, _ := Respects(m, p)
			return !is
		})
		for _, p := range respected {
			for _, q := range respected {
				join, e := classes.Join(p, q)
				if is, f := Respects(m, join); !is || e != api.OK || f != api.OK {
					t.Errorf("%v respects %v and %v, but not %v; errors %d, %d", m, p, q, join, e, f)
				}
			}
		}
	}
}

// Rules R1 and R4: arguments stay as they are, and results share memory neither with them nor with each other.
func TestArgumentsAreNeitherChangedNorShared(t *testing.T) {
	row := append(make([]api.Edge, 0, 8), api.Edge{To: 1}, none)
	m := samples.Machine(2, 1, append(make([][]api.Edge, 0, 8), row, []api.Edge{{}, {}}, row)...)
	p := append(make([]int, 0, 8), 0, 1, 0)
	before := samples.Clone(m)
	for range 2 {
		first, _ := Rounds(m, 0)
		second, _ := Rounds(m, 1)
		third, _, _ := Classes(m)
		like, _ := Equivalent(m, 0, 2)
		respects, _ := Respects(m, p)
		if !slices.Equal(first, []int{0, 0, 0}) || !slices.Equal(second, p) || !slices.Equal(third, p) || !like || !respects {
			t.Errorf("%v, %v, %v, %v, %v", first, second, third, like, respects)
		}
		// What is written into a result changes no argument, and no later result.
		first[0], second[1], third[2] = 99, 99, 99
	}
	if !machines.Same(m, before) || row[:3][2] != (api.Edge{}) || m.Rows[:4][3] != nil || !slices.Equal(p[:8], []int{0, 1, 0, 0, 0, 0, 0, 0}) {
		t.Errorf("changed: %v, %v", m, p)
	}
}
