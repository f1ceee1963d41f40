// Package samples contains machines for the tests of several layers. The program itself does not use it.
package samples

import (
	"math"
	"slices"

	"gauntlet/api"
)

// none is the undefined edge.
var none = api.Edge{To: api.None, Out: api.None}

// Refused is a machine that is not valid, with its error.
type Refused struct {
	Name string
	M    api.Machine
	Want api.Errno
}

// Machine returns a machine with these rows.
func Machine(inputs, outputs int, rows ...[]api.Edge) api.Machine {
	return api.Machine{Inputs: inputs, Outputs: outputs, Rows: rows}
}

// Ring returns a machine with one input and 16 outputs that goes from each state to the next one, and from the last one to the first one.
func Ring(states int) api.Machine {
	m := Machine(1, 16)
	for s := range states {
		m.Rows = append(m.Rows, []api.Edge{{To: (s + 1) % states, Out: s % 16}})
	}
	return m
}

// Chain returns a machine with one input that goes from each state to the next one, and from the last one nowhere: a word must take the greater of two states there to tell it from the lesser one.
func Chain(states int) api.Machine {
	m := Machine(1, 1)
	for s := range states - 1 {
		m.Rows = append(m.Rows, []api.Edge{{To: s + 1}})
	}
	m.Rows = append(m.Rows, []api.Edge{none})
	return m
}

// Largest returns a machine with as many states, inputs and outputs as there may be: the input i leads from s to s + i + 1, with the output i.
func Largest() api.Machine {
	m := Machine(16, 16)
	for s := range 64 {
		row := make([]api.Edge, 16)
		for i := range row {
			row[i] = api.Edge{To: (s + i + 1) % 64, Out: i}
		}
		m.Rows = append(m.Rows, row)
	}
	return m
}

// LargestBut returns the largest machine, in which all states are equivalent, with another edge in the state 63 for the input 15.
func LargestBut(x api.Edge) api.Machine {
	m := Largest()
	m.Rows[63][15] = x
	return m
}

// Large returns machines with as many states as there may be, or one less.
func Large() []api.Machine {
	return []api.Machine{Chain(64), Chain(63), Ring(64), Ring(63), Largest(), LargestBut(none), LargestBut(api.Edge{To: 15, Out: 14})}
}

// Numbers returns a function that tells one number after the other, from 0 to below - 1, that follow no pattern; another seed makes others.
func Numbers(seed int) func(below int) int {
	return func(below int) int {
		seed = (seed*1103515245 + 12345) % (1 << 31)
		return seed >> 8 % below
	}
}

// Scattered returns a machine whose edges follow no pattern; another seed makes another one. Most edges have the output 0, few of them are undefined: so states are hard to tell apart.
func Scattered(states, inputs, seed int) api.Machine {
	next := Numbers(seed)
	m := Machine(inputs, 2)
	for range states {
		row := make([]api.Edge, inputs)
		for i := range row {
			switch chance := next(4 * states); {
			case chance < 1:
				row[i] = none
			case chance < 3:
				row[i] = api.Edge{To: next(states), Out: 1}
			default:
				row[i] = api.Edge{To: next(states), Out: 0}
			}
		}
		m.Rows = append(m.Rows, row)
	}
	return m
}

// Copied returns a machine in which so many states stand for each state of the given one. Each of them leads to another one of those for a next state, and some are not reached.
func Copied(m api.Machine, copies int) api.Machine {
	n := len(m.Rows)
	other := Machine(m.Inputs, m.Outputs)
	for s := range n * copies {
		row := slices.Clone(m.Rows[s%n])
		for i, x := range row {
			if x != none {
				row[i].To += (s/n + s + i) % copies * n
			}
		}
		other.Rows = append(other.Rows, row)
	}
	return other
}

// Clone returns the same machine in other memory.
func Clone(m api.Machine) api.Machine {
	rows := slices.Clone(m.Rows)
	for s, row := range rows {
		rows[s] = slices.Clone(row)
	}
	return Machine(m.Inputs, m.Outputs, rows...)
}

// IsZero reports whether a machine is the zero value.
func IsZero(m api.Machine) bool {
	return m.Inputs == 0 && m.Outputs == 0 && len(m.Rows) == 0
}

// Full reports whether a machine has the capacity that it needs, and no more.
func Full(m api.Machine) bool {
	return cap(m.Rows) == len(m.Rows) && !slices.ContainsFunc(m.Rows, func(row []api.Edge) bool { return cap(row) != len(row) })
}

// Changed returns a machine after a change, which may write into the rows of the given one.
func Changed(m api.Machine, change func(m *api.Machine)) api.Machine {
	change(&m)
	return m
}

// Edges returns the undefined edge, and all others to so many states with so many outputs.
func Edges(states, outputs int) []api.Edge {
	all := []api.Edge{none}
	for to := range states {
		for out := range outputs {
			all = append(all, api.Edge{To: to, Out: out})
		}
	}
	return all
}

// Of returns all machines with so many states and inputs whose edges are of a list, valid or not.
func Of(states, inputs, outputs int, edges []api.Edge) []api.Machine {
	all := []api.Machine{Machine(inputs, outputs, make([][]api.Edge, states)...)}
	for n := range states * inputs {
		var more []api.Machine
		for _, m := range all {
			for _, x := range edges {
				next := Clone(m)
				next.Rows[n/inputs] = append(next.Rows[n/inputs], x)
				more = append(more, next)
			}
		}
		all = more
	}
	return all
}

// All returns all valid machines with these numbers.
func All(states, inputs, outputs int) []api.Machine {
	return Of(states, inputs, outputs, Edges(states, outputs))
}

// Small returns all machines with some small numbers of states, inputs and outputs.
func Small() []api.Machine {
	return slices.Concat(All(1, 2, 2), All(2, 2, 2), All(3, 1, 2), All(3, 2, 1), All(4, 1, 1))
}

// Invalid returns machines that are not valid.
func Invalid() []Refused {
	changed := func(change func(m *api.Machine)) api.Machine {
		return Changed(Machine(2, 2, []api.Edge{{To: 1, Out: 0}, {To: 0, Out: 1}}, []api.Edge{none, {To: 0, Out: 0}}), change)
	}
	with := func(s, i, to, out int) api.Machine {
		return changed(func(m *api.Machine) { m.Rows[s][i] = api.Edge{To: to, Out: out} })
	}
	return []Refused{
		{"zero", api.Machine{}, api.ErrArg},
		{"no rows", Machine(2, 2), api.ErrArg},
		{"empty rows", Machine(2, 2, make([][]api.Edge, 2)...), api.ErrArg},
		{"no inputs", Machine(0, 2, []api.Edge{}), api.ErrArg},
		{"no inputs, but edges", changed(func(m *api.Machine) { m.Inputs = 0 }), api.ErrArg},
		{"negative inputs", changed(func(m *api.Machine) { m.Inputs = -1 }), api.ErrArg},
		{"least inputs", changed(func(m *api.Machine) { m.Inputs = math.MinInt }), api.ErrArg},
		{"fewer inputs than edges", changed(func(m *api.Machine) { m.Inputs = 1 }), api.ErrArg},
		{"more inputs than edges", changed(func(m *api.Machine) { m.Inputs = 3 }), api.ErrArg},
		{"no outputs", changed(func(m *api.Machine) { m.Outputs = 0 }), api.ErrArg},
		{"no outputs and no edges that are defined", Machine(1, 0, []api.Edge{none}), api.ErrArg},
		{"negative outputs", Machine(1, -1, []api.Edge{none}), api.ErrArg},
		{"least outputs", changed(func(m *api.Machine) { m.Outputs = math.MinInt }), api.ErrArg},
		{"too few outputs", changed(func(m *api.Machine) { m.Outputs = 1 }), api.ErrArg},
		{"first row too short", changed(func(m *api.Machine) { m.Rows[0] = m.Rows[0][:1] }), api.ErrArg},
		{"last row too short", changed(func(m *api.Machine) { m.Rows[1] = m.Rows[1][:1] }), api.ErrArg},
		{"last row nil", changed(func(m *api.Machine) { m.Rows[1] = nil }), api.ErrArg},
		{"last row too long", changed(func(m *api.Machine) { m.Rows[1] = append(m.Rows[1], none) }), api.ErrArg},
		{"rows too short and too long", Machine(2, 2, []api.Edge{none}, []api.Edge{none, none, none}), api.ErrArg},
		{"state too great", with(0, 0, 2, 0), api.ErrArg},
		{"state too great in the last edge", with(1, 1, 2, 0), api.ErrArg},
		{"state negative", with(0, 0, -2, 0), api.ErrArg},
		{"output too great", with(0, 0, 1, 2), api.ErrArg},
		{"output negative", with(0, 1, 1, -2), api.ErrArg},
		{"a state, but no output", with(0, 0, 1, -1), api.ErrArg},
		{"an output, but no state", with(1, 1, -1, 0), api.ErrArg},
		{"neither, but not None", with(1, 0, -2, -2), api.ErrArg},
		{"no state, output too small", with(1, 0, -1, -2), api.ErrArg},
		{"extreme", with(1, 1, math.MinInt, math.MaxInt), api.ErrArg},
		{"extreme state", with(1, 1, math.MaxInt, 0), api.ErrArg},
		{"state too great where nothing leads", Machine(1, 1, []api.Edge{{}}, []api.Edge{{To: 2}}), api.ErrArg},
		{"too many inputs", changed(func(m *api.Machine) { m.Inputs = 17 }), api.ErrLimit},
		{"too many inputs that have edges", Machine(17, 1, make([]api.Edge, 17)), api.ErrLimit},
		{"most inputs", changed(func(m *api.Machine) { m.Inputs = math.MaxInt }), api.ErrLimit},
		{"too many outputs", changed(func(m *api.Machine) { m.Outputs = 17 }), api.ErrLimit},
		{"most outputs", changed(func(m *api.Machine) { m.Outputs = math.MaxInt }), api.ErrLimit},
		{"too many rows", Ring(65), api.ErrLimit},
		{"far too many rows", Machine(1, 1, make([][]api.Edge, 70000)...), api.ErrLimit},
		{"too many inputs before no outputs", Machine(17, 0), api.ErrLimit},
		{"too many outputs before no inputs", Machine(0, 17), api.ErrLimit},
		{"too many rows before no inputs", Machine(0, 0, make([][]api.Edge, 65)...), api.ErrLimit},
		{"too many outputs before a row", Machine(2, 17, []api.Edge{none}), api.ErrLimit},
		{"too many inputs before an edge", Machine(17, 2, []api.Edge{{To: 9, Out: 9}}), api.ErrLimit},
	}
}
