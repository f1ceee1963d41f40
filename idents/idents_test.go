package idents_test

import (
	"fmt"
	"math"
	"slices"
	"testing"

	"gauntlet/api"
	"gauntlet/idents"
	"gauntlet/machines"
	"gauntlet/samples"
	"gauntlet/samples/lists"
	"gauntlet/samples/propers"
	"gauntlet/splits"
	"gauntlet/tries"
	"gauntlet/words"
)

// table returns a machine with these outputs of its states, no two of which may have the same ones: so all words of W have one symbol.
func table(outs ...[]int) api.Machine {
	m := samples.Machine(len(outs[0]), 10)
	for s, row := range outs {
		edges := make([]api.Edge, len(row))
		for i, out := range row {
			edges[i] = api.Edge{To: (s + 1) % len(outs), Out: out}
		}
		m.Rows = append(m.Rows, edges)
	}
	return m
}

// run returns the response of a state of a complete machine to a word.
func run(m api.Machine, s int, w []int) []int {
	var response []int
	for _, i := range w {
		response = append(response, m.Rows[s][i].Out)
		s = m.Rows[s][i].To
	}
	return response
}

// apart reports by the definition whether a word separates two states of a complete machine.
func apart(m api.Machine, w []int, s, t int) bool {
	for _, i := range w {
		x, y := m.Rows[s][i], m.Rows[t][i]
		if x.Out != y.Out {
			return true
		}
		s, t = x.To, y.To
	}
	return false
}

// tells reports by the definition whether a list tells the states apart.
func tells(m api.Machine, l [][]int) bool {
	for t := range m.Rows {
		for s := range t {
			if !slices.ContainsFunc(l, func(w []int) bool { return apart(m, w, s, t) }) {
				return false
			}
		}
	}
	return true
}

// tried returns by the definition the table of a small proper machine: the separating word of two states is the first one of all that separates them.
func tried(m api.Machine) []splits.Pair {
	var all []splits.Pair
	for t := range m.Rows {
		for s := range t {
			for w := range words.All(m.Inputs, len(m.Rows)) {
				if apart(m, w, s, t) {
					all = append(all, splits.Pair{S: s, T: t, Word: w})
					break
				}
			}
		}
	}
	return all
}

// tabled returns the table of a machine.
func tabled(m api.Machine) []splits.Pair {
	all, e := splits.Table(m)
	if e != api.OK {
		panic("a machine is not valid")
	}
	return all
}

// ofEach returns by the definition W of each state, and W of the machine, given the table of it.
func ofEach(m api.Machine, table []splits.Pair) (each [][][]int, all [][]int) {
	each = make([][][]int, len(m.Rows))
	for _, x := range table {
		each[x.S] = append(each[x.S], x.Word)
		each[x.T] = append(each[x.T], x.Word)
		all = append(all, x.Word)
	}
	for s, l := range each {
		each[s] = lists.Sorted(l)
	}
	return each, lists.Sorted(all)
}

// choices calls a function for all lists of so many words of a list, those first whose words come first, until it returns true; it reports whether it did.
func choices(l [][]int, count int, stop func(some [][]int) bool, before ...[]int) bool {
	if count == 0 {
		return stop(before)
	}
	for n, w := range l {
		if choices(l[n+1:], count-1, stop, append(slices.Clip(before), w)...) {
			return true
		}
	}
	return false
}

// fewestOf returns by the definition the least list of words of W that tells the states apart.
func fewestOf(m api.Machine, w [][]int) [][]int {
	var least [][]int
	for count := range len(w) + 1 {
		if choices(w, count, func(some [][]int) bool {
			least = some
			return tells(m, some)
		}) {
			return least
		}
	}
	panic("a machine is not proper")
}

// signatureOf returns by the definition the signature of a state.
func signatureOf(m api.Machine, l [][]int, s int) [][]int {
	var all [][]int
	for _, w := range l {
		all = append(all, run(m, s, w))
	}
	return all
}

// fitting returns by the definition the states that fit responses.
func fitting(m api.Machine, l, responses [][]int) []int {
	var some []int
	for s := range m.Rows {
		if lists.Same(signatureOf(m, l, s), responses) {
			some = append(some, s)
		}
	}
	return some
}

// wantList holds what was returned against a list.
func wantList(t *testing.T, name string, got [][]int, e api.Errno, want [][]int) {
	t.Helper()
	if e != api.OK || !lists.Same(got, want) || !lists.Full(got) {
		t.Errorf("%s: error %d, %d words %s; want %d: %s", name, e, len(got), lists.Brief(got), len(want), lists.Brief(want))
	}
}

// wantStates holds what was returned against some states.
func wantStates(t *testing.T, name string, got []int, e api.Errno, want []int) {
	t.Helper()
	if e != api.OK || !slices.Equal(got, want) || cap(got) != len(got) {
		t.Errorf("%s: %v, error %d; want %v", name, got, e, want)
	}
}

// wantRefused holds what was returned against an error.
func wantRefused(t *testing.T, name string, got [][]int, e, want api.Errno) {
	t.Helper()
	if e != want || got != nil {
		t.Errorf("%s: error %d, %d words %s; want error %d", name, e, len(got), lists.Brief(got), want)
	}
}

// P14.1, P14.3
func TestAllOfAndFewest(t *testing.T) {
	for _, x := range []struct {
		name        string
		m           api.Machine
		all, fewest string
		each        []string
	}{
		{"example", propers.Example(), "0, 1", "0, 1", []string{"0, 1", "0, 1", "0"}},
		{"one state", propers.Resting(1), "", "", []string{""}},
		{"one state, 16 inputs", propers.Resting(16), "", "", []string{""}},
		{"two states", propers.Late(2), "0", "0", []string{"0", "0"}},
		{"the longest word alone", propers.Late(4), "0, 0 0, 0 0 0", "0 0 0", []string{"0, 0 0, 0 0 0", "0, 0 0, 0 0 0", "0, 0 0", "0"}},
		{"all words", propers.Doors(3), "0, 1, 2", "0, 1, 2", []string{"0, 1, 2", "0", "0, 1", "0, 1, 2"}},
		{"the first word is not needed", table([]int{0, 0, 0}, []int{0, 0, 1}, []int{1, 1, 0}, []int{1, 1, 1}), "0, 2", "0, 2", []string{"0, 2", "0, 2", "0, 2", "0, 2"}},
		{"the last word alone", table([]int{0, 0}, []int{0, 1}, []int{1, 2}), "0, 1", "1", []string{"0, 1", "0, 1", "0"}},
		{"the last two of three words", table([]int{0, 0, 0}, []int{0, 0, 1}, []int{0, 1, 0}, []int{1, 1, 1}), "0, 1, 2", "1, 2", []string{"0, 1, 2", "0, 1, 2", "0, 1", "0"}},
		{"the last one of three words with either of the others", table([]int{0, 0, 0}, []int{0, 0, 1}, []int{0, 1, 2}, []int{1, 1, 0}), "0, 1, 2", "0, 2", []string{"0, 1, 2", "0, 1, 2", "0, 1", "0"}},
		{"any two of three words", table([]int{0, 0, 0}, []int{0, 1, 1}, []int{1, 0, 2}, []int{1, 1, 3}), "0, 1", "0, 1", []string{"0, 1", "0, 1", "0, 1", "0, 1"}},
		{"one word of two, but it is not in W", table([]int{0, 0, 0}, []int{0, 1, 1}, []int{1, 0, 2}), "0, 1", "0, 1", []string{"0, 1", "0, 1", "0"}},
		{"the last two of three words, of four", table([]int{0, 0, 0, 0}, []int{0, 0, 0, 1}, []int{1, 0, 2, 2}, []int{1, 1, 2, 3}, []int{1, 2, 3, 2}), "0, 1, 3", "1, 3", []string{"0, 3", "0, 3", "0, 1", "0, 1", "0, 1"}},
		{"symbols of two digits", propers.Doors(12), "0, 1, 2, 3, 4, 5, 6, 7, 8, 9, 10, 11", "0, 1, 2, 3, 4, 5, 6, 7, 8, 9, 10, 11", nil},
	} {
		got, e := idents.All(x.m)
		wantList(t, x.name+": All", got, e, lists.Of(x.all))
		for s, want := range x.each {
			got, e = idents.Of(x.m, s)
			wantList(t, fmt.Sprint(x.name, ": Of ", s), got, e, lists.Of(want))
		}
		got, e = idents.Fewest(x.m)
		wantList(t, x.name+": Fewest", got, e, lists.Of(x.fewest))
	}
}

// wantWords holds W of a machine and its states, and the least list of words of it, against the definitions.
func wantWords(t *testing.T, m api.Machine, table []splits.Pair) {
	t.Helper()
	each, all := ofEach(m, table)
	got, e := idents.All(m)
	wantList(t, fmt.Sprint("All of ", m), got, e, all)
	for s, want := range each {
		got, e = idents.Of(m, s)
		wantList(t, fmt.Sprint("Of ", s, " of ", m), got, e, want)
	}
	got, e = idents.Fewest(m)
	if len(all) > idents.MaxFewest {
		wantRefused(t, fmt.Sprint("Fewest of ", m), got, e, api.ErrLimit)
	} else {
		wantList(t, fmt.Sprint("Fewest of ", m), got, e, fewestOf(m, all))
	}
}

// P14.1, P14.3
func TestWordsByTheDefinition(t *testing.T) {
	for _, m := range propers.Small() {
		wantWords(t, m, tried(m))
	}
	for n, m := range propers.Threes() {
		if n%7 == 0 {
			wantWords(t, m, tried(m))
		}
	}
	for _, m := range propers.Some() {
		wantWords(t, m, tabled(m))
	}
}

// P14.3
func TestFewestOfManyChoices(t *testing.T) {
	lesser, first := 0, 0
	for seed := range 400 {
		m := propers.Scattered(3+seed%14, 1+seed%7, 2+seed%2, 1+seed%9, seed)
		_, all := ofEach(m, tabled(m))
		if len(all) < 3 || len(all) > idents.MaxFewest {
			continue
		}
		want := fewestOf(m, all)
		got, e := idents.Fewest(m)
		wantList(t, fmt.Sprint("Fewest of ", m), got, e, want)
		if len(want) == len(all) {
			continue
		}
		lesser++
		if !lists.Same(want, all[:len(want)]) {
			first++
		}
	}
	// Without such machines the test would tell little.
	if lesser < 50 || first < 50 {
		t.Errorf("%d machines need fewer words than W has, %d of them not the first ones", lesser, first)
	}
}

// P14.3
func TestFewestUpToTheLimit(t *testing.T) {
	if idents.MaxFewest != 12 {
		t.Errorf("MaxFewest is %d", idents.MaxFewest)
	}
	for _, x := range []struct {
		name string
		m    api.Machine
		want [][]int
	}{
		{"ring", propers.Late(13), [][]int{lists.Repeat(0, 12)}},
		{"slow", propers.Slow(13), nil},
		{"doors", propers.Doors(12), lists.First(12, 12, 1)},
	} {
		if x.want == nil {
			_, all := ofEach(x.m, tabled(x.m))
			x.want = fewestOf(x.m, all)
		}
		got, e := idents.Fewest(x.m)
		wantList(t, x.name, got, e, x.want)
	}
	for _, m := range []api.Machine{propers.Late(14), propers.Slow(14), propers.Doors(13), propers.Late(64), propers.Slow(64), propers.Doors(16)} {
		got, e := idents.Fewest(m)
		wantRefused(t, fmt.Sprint(len(m.Rows), " states, ", m.Inputs, " inputs"), got, e, api.ErrLimit)
	}
}

// P14.2
func TestIsSet(t *testing.T) {
	for _, x := range []struct {
		name string
		m    api.Machine
		l    string
		want bool
	}{
		{"example, one word", propers.Example(), "0", false},
		{"example, the other word", propers.Example(), "1", false},
		{"example, one word that is not in W", propers.Example(), "0 0", true},
		{"example, W", propers.Example(), "0, 1", true},
		{"example, a long word that does not", propers.Example(), "1 1 1 1", false},
		{"example, no words", propers.Example(), "", false},
		{"example, the empty word", propers.Example(), "-", false},
		{"example, more words than it needs", propers.Example(), "-, 0, 1, 0 0, 1 1 1", true},
		{"example, words of different lengths", propers.Example(), "1, 0 1 0 1", true},
		{"one state, no words", propers.Resting(2), "", true},
		{"one state, the empty word", propers.Resting(2), "-", true},
		{"one state, words", propers.Resting(2), "0, 1 1", true},
		{"two states, no words", propers.Late(2), "", false},
		{"two states, the empty word", propers.Late(2), "-", false},
		{"two states", propers.Late(2), "0", true},
		{"the longest word alone", propers.Late(5), "0 0 0 0", true},
		{"all but the longest word", propers.Late(5), "-, 0, 0 0, 0 0 0", false},
		{"doors", propers.Doors(3), "0, 1, 2", true},
		{"without the first one", propers.Doors(3), "1, 2", false},
		{"without the middle one", propers.Doors(3), "0, 2", false},
		{"without the last one", propers.Doors(3), "0, 1", false},
		{"behind others", propers.Doors(3), "0 0, 1 0, 2 0", true},
		{"too far behind", propers.Doors(3), "0 1, 0 2, 1 2", false},
	} {
		if is, e := idents.IsSet(x.m, lists.Of(x.l)); is != x.want || e != api.OK {
			t.Errorf("%s: %v, error %d", x.name, is, e)
		}
	}
}

// wantTold holds what a list tells of states, and of responses that are changed in one place, against the definitions. Of many states it takes some.
func wantTold(t *testing.T, m api.Machine, l [][]int) {
	t.Helper()
	if is, e := idents.IsSet(m, l); is != tells(m, l) || e != api.OK {
		t.Errorf("IsSet of %v, %s: %v, error %d", m, lists.Brief(l), is, e)
	}
	for s := 0; s < len(m.Rows); s += 1 + len(m.Rows)/6 {
		responses := signatureOf(m, l, s)
		got, e := idents.Signature(m, l, s)
		wantList(t, fmt.Sprint("Signature of ", s, " of ", m), got, e, responses)
		states, e := idents.Identify(m, l, responses)
		wantStates(t, fmt.Sprint("Identify ", s, " of ", m, " by ", lists.Brief(l)), states, e, fitting(m, l, responses))
		for n := s % 3; n < len(l); n += 1 + len(l)/5 {
			if len(l[n]) == 0 {
				continue
			}
			other := lists.Copy(responses)
			other[n][len(other[n])-1] ^= 1
			states, e = idents.Identify(m, l, other)
			wantStates(t, fmt.Sprint("Identify not quite ", s, " of ", m, " by ", lists.Brief(l)), states, e, fitting(m, l, other))
		}
	}
}

// P14.2, P14.4, P14.5
func TestListsByTheDefinition(t *testing.T) {
	every := [...][][][]int{1: lists.Every(1, 4), 2: lists.Every(2, 2), 3: lists.Every(3, 1)}
	for n, m := range propers.Small() {
		all := every[m.Inputs]
		for k := n % 5; k < len(all); k += 5 {
			wantTold(t, m, all[k])
		}
	}
	for n, m := range propers.Threes() {
		if n%3 == 0 {
			wantTold(t, m, every[2][n%len(every[2])])
		}
	}
	for n, m := range propers.Some() {
		wantTold(t, m, lists.Scattered(m.Inputs, 2+n%9, 3+n*7%20, n))
	}
}

// P14.2
func TestSetsWithoutOneWord(t *testing.T) {
	for _, m := range append(propers.Some(), propers.Example()) {
		_, all := ofEach(m, tabled(m))
		// With more words than these it would take long.
		if len(all) > 30 {
			continue
		}
		if is, e := idents.IsSet(m, all); !is || e != api.OK {
			t.Errorf("W of %v tells not all states apart: error %d", m, e)
		}
		for n := range all {
			l := slices.Delete(lists.Copy(all), n, n+1)
			if is, e := idents.IsSet(m, l); is != tells(m, l) || e != api.OK {
				t.Errorf("%v without %s: %v, error %d", m, words.Text(all[n]), is, e)
			}
		}
	}
}

// P14.4
func TestSignature(t *testing.T) {
	for _, x := range []struct {
		name string
		m    api.Machine
		l    string
		s    int
		want string
	}{
		{"example", propers.Example(), "0, 1", 0, "0, 0"},
		{"example", propers.Example(), "0, 1", 1, "0, 1"},
		{"example", propers.Example(), "0, 1", 2, "1, 0"},
		{"no words", propers.Example(), "", 1, ""},
		{"the empty word", propers.Example(), "-", 1, "-"},
		{"not in the order of words", propers.Example(), "-, 0, 0 0, 1 0 0", 1, "-, 0, 0 1, 1 0 1"},
		{"outputs of two digits", samples.Ring(12), "0, 0 0 0", 10, "10, 10 11 0"},
		{"one state", propers.Resting(2), "1, 0 1", 0, "0, 0 0"},
	} {
		got, e := idents.Signature(x.m, lists.Of(x.l), x.s)
		wantList(t, fmt.Sprint(x.name, ", ", x.s), got, e, lists.Of(x.want))
	}
}

// P14.5
func TestIdentify(t *testing.T) {
	for _, x := range []struct {
		name      string
		m         api.Machine
		l         string
		responses [][]int
		want      []int
	}{
		{"example", propers.Example(), "0, 1", [][]int{{0}, {0}}, []int{0}},
		{"example", propers.Example(), "0, 1", [][]int{{0}, {1}}, []int{1}},
		{"example", propers.Example(), "0, 1", [][]int{{1}, {0}}, []int{2}},
		{"outputs that no state has together", propers.Example(), "0, 1", [][]int{{1}, {1}}, nil},
		{"two states", propers.Example(), "0", [][]int{{0}}, []int{0, 1}},
		{"an output that no state has", propers.Example(), "0", [][]int{{7}}, nil},
		{"None", propers.Example(), "0", [][]int{{-1}}, nil},
		{"extreme", propers.Example(), "0, 1", [][]int{{math.MinInt}, {math.MaxInt}}, nil},
		{"beyond the outputs that there may be", propers.Example(), "0", [][]int{{256}}, nil},
		{"as many as four times 2^32", propers.Example(), "0", [][]int{{1 << 34}}, nil},
		{"an output of one state, and then of another one", propers.Example(), "0 0", [][]int{{1, 1}}, nil},
		{"the same responses in another order", propers.Example(), "0, 1 0", [][]int{{0}, {0, 0}}, []int{0}},
		{"no words", propers.Example(), "", nil, []int{0, 1, 2}},
		{"no words, no responses", propers.Example(), "", [][]int{}, []int{0, 1, 2}},
		{"the empty word", propers.Example(), "-", [][]int{{}}, []int{0, 1, 2}},
		{"the empty word, nil", propers.Example(), "-, 0", [][]int{nil, {1}}, []int{2}},
		{"one state", propers.Resting(1), "0", [][]int{{0}}, []int{0}},
		{"one state, no words", propers.Resting(1), "", nil, []int{0}},
		{"one state, another output", propers.Resting(1), "0", [][]int{{1}}, nil},
		{"ring", samples.Ring(63), "0", [][]int{{14}}, []int{14, 30, 46, 62}},
	} {
		got, e := idents.Identify(x.m, lists.Of(x.l), x.responses)
		wantStates(t, fmt.Sprint(x.name, ", ", x.responses), got, e, x.want)
	}
}

// P14.5
func TestIdentifyRefuses(t *testing.T) {
	for _, x := range []struct {
		name      string
		l         string
		responses [][]int
	}{
		{"no responses", "0", nil},
		{"a response without words", "", [][]int{{}}},
		{"too few", "0, 1", [][]int{{0}}},
		{"too many", "0, 1", [][]int{{0}, {0}, {0}}},
		{"one that is empty too many", "0, 1", [][]int{{0}, {0}, {}}},
		{"far too many", "0", make([][]int, 100000)},
		{"no output", "0", [][]int{{}}},
		{"nil", "0", [][]int{nil}},
		{"an output for the empty word", "-", [][]int{{0}}},
		{"an output too few", "0, 0 0", [][]int{{0}, {0}}},
		{"an output too many", "0, 0 0", [][]int{{0}, {0, 0, 0}}},
		{"an output too many in the first one", "0, 0 0", [][]int{{0, 0}, {0, 0}}},
		{"as many outputs together", "0, 0 0", [][]int{{0, 0}, {0}}},
		{"in another order", "0, 1 0, 1 1 0", [][]int{{0}, {0, 0, 0}, {0, 0}}},
		{"behind an output that no state has", "0, 0 0", [][]int{{9}, {0}}},
		{"a response that is longer than words", "0", [][]int{lists.Repeat(0, 257)}},
	} {
		for _, m := range []api.Machine{propers.Example(), propers.Resting(2), propers.Slow(64)} {
			if got, e := idents.Identify(m, lists.Of(x.l), x.responses); e != api.ErrCount || got != nil {
				t.Errorf("%s: %v, error %d", x.name, got, e)
			}
		}
	}
}

// P14.2, P14.4, P14.5
func TestListsUpToTheLimits(t *testing.T) {
	m := propers.Slow(64)
	for _, l := range [][][]int{lists.First(256, 16, 256), lists.First(4096, 16, 16)} {
		is, e := idents.IsSet(m, l)
		signature, f := idents.Signature(m, l, 63)
		got, g := idents.Identify(m, l, signature)
		if is || max(e, f, g) != api.OK || !lists.Same(signature, signatureOf(m, l, 63)) || !slices.Equal(got, fitting(m, l, signature)) {
			t.Errorf("%d words of %d symbols: %v, %v, errors %d, %d, %d", len(l), len(l[0]), is, got, e, f, g)
		}
	}
	l := append(lists.First(4095, 16, 15), lists.Repeat(15, 63))
	if is, e := idents.IsSet(m, l); !is || e != api.OK {
		t.Errorf("only the last word tells the states apart: %v, error %d", is, e)
	}
}

// wantNothing fails unless all functions that are given a list, and a state of the machine, return an error.
func wantNothing(t *testing.T, name string, m api.Machine, l [][]int, s int, want api.Errno) {
	t.Helper()
	if is, e := idents.IsSet(m, l); is || e != want {
		t.Errorf("%s: IsSet: %v, error %d; want error %d", name, is, e, want)
	}
	got, e := idents.Signature(m, l, s)
	wantRefused(t, name+": Signature", got, e, want)
	for _, responses := range [][][]int{nil, {{}}, {{0}}, l, {{math.MinInt}}, make([][]int, 5000)} {
		if got, e := idents.Identify(m, l, responses); got != nil || e != want {
			t.Errorf("%s: Identify: %v, error %d; want error %d", name, got, e, want)
		}
	}
}

// P14.1, P14.2, P14.3, P14.4, P14.5
func TestMachinesAreRefused(t *testing.T) {
	for _, x := range propers.Improper() {
		got, e := idents.All(x.M)
		wantRefused(t, "All: "+x.Name, got, e, x.Want)
		got, e = idents.Fewest(x.M)
		wantRefused(t, "Fewest: "+x.Name, got, e, x.Want)
		for _, s := range []int{0, 1, 2, -1, 64, 65, math.MinInt, math.MaxInt} {
			got, e = idents.Of(x.M, s)
			wantRefused(t, fmt.Sprint("Of ", s, ": ", x.Name), got, e, x.Want)
			for _, l := range [][][]int{nil, lists.Of("-"), lists.Of("0"), lists.Of("1, 0"), {{math.MinInt}}, {lists.Repeat(0, 257)}, make([][]int, 4097)} {
				wantNothing(t, x.Name, x.M, l, s, x.Want)
			}
		}
	}
}

// P14.2, P14.4, P14.5
func TestListsAreRefused(t *testing.T) {
	for _, x := range lists.Refused() {
		if x.Inputs < 1 || x.Inputs > api.MaxInputs {
			continue
		}
		for _, m := range []api.Machine{propers.Resting(x.Inputs), propers.Doors(x.Inputs), propers.Scattered(20, x.Inputs, 2, 3, 1)} {
			for _, s := range []int{0, -1, len(m.Rows), math.MaxInt} {
				wantNothing(t, x.Name, m, x.L, s, x.Want)
			}
		}
	}
	wantNothing(t, "a symbol that another machine has", propers.Example(), lists.Of("2"), 0, api.ErrArg)
	wantNothing(t, "behind words that tell all states apart", propers.Example(), lists.Of("0, 1, 0 2"), 0, api.ErrArg)
}

// P14.1, P14.4
func TestStatesAreRefused(t *testing.T) {
	for _, m := range append(propers.Large(), propers.Example(), propers.Resting(1), propers.Late(2)) {
		n := len(m.Rows)
		for _, s := range []int{-1, -2, n, n + 1, 64, 65, math.MinInt, math.MaxInt} {
			got, e := idents.Of(m, s)
			wantRefused(t, fmt.Sprint("Of ", s), got, e, api.ErrArg)
			for _, text := range []string{"", "-", "0", "0, 0 0"} {
				got, e = idents.Signature(m, lists.Of(text), s)
				wantRefused(t, fmt.Sprint("Signature of ", s), got, e, api.ErrArg)
			}
		}
		if _, e := idents.Of(m, n-1); e != api.OK {
			t.Errorf("Of the last state: error %d", e)
		}
		if _, e := idents.Signature(m, nil, n-1); e != api.OK {
			t.Errorf("Signature of the last state: error %d", e)
		}
	}
}

// wantTelling fails unless a list tells the states apart, and the signature of a state identifies it alone. Of many states it takes some.
func wantTelling(t *testing.T, name string, m api.Machine, l [][]int) {
	t.Helper()
	if is, e := idents.IsSet(m, l); !is || e != api.OK {
		t.Errorf("%v: %s tells not all states apart: error %d", m, name, e)
	}
	for s := 0; s < len(m.Rows); s += 1 + len(m.Rows)/5 {
		signature, e := idents.Signature(m, l, s)
		got, f := idents.Identify(m, l, signature)
		wantStates(t, fmt.Sprint(name, ", ", s, " of ", m), got, max(e, f), []int{s})
	}
}

// P14.6
func TestConsequences(t *testing.T) {
	hold := func(m api.Machine) {
		all, e := idents.All(m)
		if e != api.OK {
			t.Errorf("All of %v: error %d", m, e)
		}
		wantTelling(t, "W", m, all)
		if fewest, e := idents.Fewest(m); e != api.ErrLimit {
			wantTelling(t, "Fewest", m, fewest)
		}
		if exact, e := tries.Exact(m.Inputs, len(m.Rows)-1); e == api.OK {
			wantTelling(t, "all words", m, exact)
		}
		var union [][]int
		for s := range m.Rows {
			own, e := idents.Of(m, s)
			if union, e = tries.Union(union, own, m.Inputs); e != api.OK {
				t.Errorf("Of %d of %v: error %d", s, m, e)
			}
		}
		if !lists.Same(union, all) {
			t.Errorf("%v: W is %s, those of the states %s", m, lists.Brief(all), lists.Brief(union))
		}
		for _, w := range all {
			if len(w) < 1 || len(w) > len(m.Rows)-1 {
				t.Errorf("%v: %s is in W", m, words.Text(w))
			}
		}
	}
	for _, m := range slices.Concat(propers.Small(), propers.Some(), []api.Machine{propers.Example()}) {
		hold(m)
	}
	for n, m := range propers.Threes() {
		if n%11 == 0 {
			hold(m)
		}
	}
}

// Rules R1 and R4: arguments stay as they are, and results share memory neither with them nor with each other.
func TestArgumentsAreNeitherChangedNorShared(t *testing.T) {
	const text = "-, 0, 1, 0 1, 1 0 0"
	const told = "-, 0, 0, 0 1, 0 0 0"
	m, l, responses := propers.Example(), lists.Spare(text), lists.Spare(told)
	before := samples.Clone(m)
	for _, call := range []struct {
		name string
		make func() ([][]int, api.Errno)
	}{
		{"All", func() ([][]int, api.Errno) { return idents.All(m) }},
		{"Of", func() ([][]int, api.Errno) { return idents.Of(m, 0) }},
		{"Fewest", func() ([][]int, api.Errno) { return idents.Fewest(m) }},
		{"Signature", func() ([][]int, api.Errno) { return idents.Signature(m, l, 1) }},
	} {
		got, e := call.make()
		want := lists.Copy(got)
		if e != api.OK || len(got) == 0 || !lists.Separate(got) {
			t.Errorf("%s: words share their memory: %s, error %d", call.name, lists.Text(got), e)
		}
		got, e = call.make()
		wantList(t, call.name+" again", got, e, want)
	}
	got, e := idents.Identify(m, l, responses)
	wantStates(t, "Identify", got, e, []int{0})
	got[0] = 7
	got, e = idents.Identify(m, l, responses)
	wantStates(t, "Identify again", got, e, []int{0})
	idents.IsSet(m, l)
	if !machines.Same(m, before) || !lists.IsSpare(l, text) || !lists.IsSpare(responses, told) {
		t.Errorf("changed: %v, %s, %s", m, lists.Text(l), lists.Text(responses))
	}
}
