// Package propers contains proper machines, and machines that are not, for the tests of several layers. The program itself does not use it.
package propers

import (
	"slices"

	"gauntlet/api"
	"gauntlet/quotients"
	"gauntlet/samples"
)

// none is the undefined edge.
var none = api.Edge{To: api.None, Out: api.None}

// Example returns the machine of the examples of chapter 14, and of chapters after it.
func Example() api.Machine {
	return samples.Machine(2, 2,
		[]api.Edge{{To: 1, Out: 0}, {To: 0, Out: 0}},
		[]api.Edge{{To: 2, Out: 0}, {To: 1, Out: 1}},
		[]api.Edge{{To: 0, Out: 1}, {To: 2, Out: 0}})
}

// only returns those of some machines that are proper.
func only(all []api.Machine) []api.Machine {
	return slices.DeleteFunc(all, func(m api.Machine) bool { return quotients.Proper(m) != api.OK })
}

// complete returns all complete machines with these numbers.
func complete(states, inputs, outputs int) []api.Machine {
	return samples.Of(states, inputs, outputs, samples.Edges(states, outputs)[1:])
}

// Small returns all proper machines with some small numbers of states, inputs and outputs.
func Small() []api.Machine {
	return only(slices.Concat(complete(1, 1, 1), complete(1, 3, 2), complete(2, 2, 2), complete(2, 1, 3), complete(3, 1, 2), complete(4, 1, 2)))
}

// Threes returns all proper machines with three states, two inputs and two outputs.
func Threes() []api.Machine { return only(complete(3, 2, 2)) }

// Resting returns the proper machine with one state that always answers 0.
func Resting(inputs int) api.Machine {
	return samples.Machine(inputs, 1, make([]api.Edge, inputs))
}

// Late returns a ring that answers 1 only where it is closed, so states are told apart by words of 0 alone: by all lengths up to the number of states less 1.
func Late(states int) api.Machine {
	m := samples.Machine(1, 2)
	for s := range states {
		m.Rows = append(m.Rows, []api.Edge{{To: (s + 1) % states}})
	}
	m.Rows[states-1][0].Out = 1
	return m
}

// Slow returns a machine with as many inputs as there may be whose states are told apart as late as in a ring: with each input it goes to the next state, and only the last edge of all has another output.
func Slow(states int) api.Machine {
	m := samples.Machine(16, 2)
	for s := range states {
		m.Rows = append(m.Rows, slices.Repeat([]api.Edge{{To: (s + 1) % states}}, 16))
	}
	m.Rows[states-1][15].Out = 1
	return m
}

// Doors returns a machine that goes with each input to a state of its own, from whichever state. Only there that input answers 1: so only it tells this state from 0, and no word tells more than its first symbol.
func Doors(inputs int) api.Machine {
	m := samples.Machine(inputs, 2)
	for s := range inputs + 1 {
		row := make([]api.Edge, inputs)
		for i := range row {
			row[i].To = i + 1
		}
		if s > 0 {
			row[s-1].Out = 1
		}
		m.Rows = append(m.Rows, row)
	}
	return m
}

// proper returns a complete machine, or its minimal form if it is not proper.
func proper(m api.Machine) api.Machine {
	if quotients.Proper(m) == api.OK {
		return m
	}
	form, e := quotients.Minimal(m)
	if e != api.OK {
		panic("a machine is not valid")
	}
	return form
}

// Scattered returns a machine whose edges follow no pattern, or its minimal form if it is not proper; another seed makes another one. Of so many edges about one has an output other than 0.
func Scattered(states, inputs, outputs, rare, seed int) api.Machine {
	next := samples.Numbers(seed)
	m := samples.Machine(inputs, outputs)
	for range states {
		row := make([]api.Edge, inputs)
		for i := range row {
			row[i].To = next(states)
			if next(rare) == 0 {
				row[i].Out = next(outputs)
			}
		}
		m.Rows = append(m.Rows, row)
	}
	return proper(m)
}

// Shuffled returns a machine, or its minimal form if it is not proper, that with an input goes from different states mostly to different ones: so what was not told apart often still can be, and some words that tell states apart are long. Another seed makes another machine. Of so many edges about one has an output other than 0.
func Shuffled(states, inputs, outputs, rare, seed int) api.Machine {
	next := samples.Numbers(seed)
	m := samples.Machine(inputs, outputs)
	for range states {
		m.Rows = append(m.Rows, make([]api.Edge, inputs))
	}
	for i := range inputs {
		for s := range states {
			// Exchanged with one of those before, each order of the states may come about.
			other := next(s + 1)
			m.Rows[s][i].To = m.Rows[other][i].To
			m.Rows[other][i].To = s
		}
		for _, row := range m.Rows {
			if next(8) == 0 {
				row[i].To = next(states)
			}
			if next(rare) == 0 {
				row[i].Out = next(outputs)
			}
		}
	}
	return proper(m)
}

// Large returns machines with as many states as there may be, or one less.
func Large() []api.Machine {
	return []api.Machine{Late(64), Slow(64), Slow(63), samples.Ring(63), samples.LargestBut(api.Edge{To: 15, Out: 14})}
}

// Some returns machines that are too large for all words to be tried.
func Some() []api.Machine {
	some := slices.Concat(Large(), []api.Machine{Resting(16), Late(13), Slow(5), Doors(5), Doors(16)})
	for seed := range 60 {
		some = append(some, Scattered(2+seed*7%63, 1+seed*5%16, 2+seed%3, 1+seed%4*seed%20, seed))
	}
	return some
}

// Improper returns machines that are not proper, valid or not.
func Improper() []samples.Refused {
	return append(samples.Invalid(), []samples.Refused{
		{Name: "undefined edge", M: samples.Machine(2, 1, []api.Edge{{}, none}), Want: api.ErrPartial},
		{Name: "last edge undefined", M: samples.LargestBut(none), Want: api.ErrPartial},
		{Name: "chain", M: samples.Chain(64), Want: api.ErrPartial},
		{Name: "undefined edge before not reached", M: samples.Machine(1, 2, []api.Edge{none}, []api.Edge{{Out: 1}}), Want: api.ErrPartial},
		{Name: "undefined edge where nothing leads", M: samples.Machine(1, 2, []api.Edge{{}}, []api.Edge{none}), Want: api.ErrPartial},
		{Name: "undefined edge before equivalent", M: samples.Machine(2, 1, []api.Edge{{To: 1}, none}, []api.Edge{{}, none}), Want: api.ErrPartial},
		{Name: "not reached", M: samples.Machine(1, 2, []api.Edge{{}}, []api.Edge{{Out: 1}}), Want: api.ErrReach},
		{Name: "not reached and equivalent", M: samples.Machine(1, 1, []api.Edge{{}}, []api.Edge{{To: 1}}), Want: api.ErrReach},
		{Name: "equivalent", M: samples.Machine(1, 2, []api.Edge{{To: 1, Out: 1}}, []api.Edge{{Out: 1}}), Want: api.ErrSame},
		{Name: "two equivalent states of 64", M: samples.Ring(64), Want: api.ErrSame},
		{Name: "all states equivalent", M: samples.Largest(), Want: api.ErrSame},
	}...)
}
