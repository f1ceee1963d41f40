package probes

import (
	"slices"

	"gauntlet/api"
)

// Node is a node of a tree.
type Node struct {
	Input int
	State int
	Next  []int
}

// Tree is a tree of inputs.
type Tree struct {
	Nodes []Node
}

// noHeight stands for the height of a block that has none. It is greater than any height, since there are no more heights than blocks.
const noHeight = 1 << MaxProbe

// heights has the height of each block, as far as it is known.
type heights [1 << MaxProbe]int

// input returns the least allowed input that splits a block into blocks whose heights are known to be at most a number, None if there is none.
func (known *heights) input(m api.Machine, block set, most int) int {
	for i := range m.Inputs {
		parts := split(m, block, i)
		tooHigh := func(part set) bool { return known[part] > most }
		if allowed(block, parts) && !slices.ContainsFunc(parts[:], tooHigh) {
			return i
		}
	}
	return api.None
}

// raise finds the blocks whose heights are 1 more than a height, and reports whether there are any. Those of all lesser heights, and of this one, must have been found.
func (known *heights) raise(m api.Machine, height int) bool {
	more := false
	for block := range all(m) + 1 {
		if known[block] == noHeight && known.input(m, block, height) != api.None {
			known[block] = height + 1
			more = true
		}
	}
	return more
}

// measure returns the heights of all blocks of a machine.
func measure(m api.Machine) *heights {
	known := &heights{}
	for block := range all(m) + 1 {
		if block.size() > 1 {
			known[block] = noHeight
		}
	}
	// A block needs one whose height is less by one: if no block has a height, none has a greater one.
	for height := 0; known.raise(m, height); height++ {
	}
	return known
}

// run is a state from which the machine may have been started, and the state where it is now if it was.
type run struct{ start, now int }

// starts returns the runs at the root: nothing was given to the machine yet.
func starts(m api.Machine) []run {
	runs := make([]run, len(m.Rows))
	for s := range runs {
		runs[s] = run{s, s}
	}
	return runs
}

// block returns the states where the machine may be now.
func block(runs []run) set {
	states := set(0)
	for _, r := range runs {
		states |= 1 << r.now
	}
	return states
}

// after returns those of some runs that go on with an output after an input.
func after(m api.Machine, runs []run, i, out int) []run {
	var some []run
	for _, r := range runs {
		if x := m.Rows[r.now][i]; x.Out == out {
			some = append(some, run{r.start, x.To})
		}
	}
	return some
}

// Build returns the tree of a machine. (P15.3)
func Build(m api.Machine) (Tree, api.Errno) {
	if e := check(m); e != api.OK {
		return Tree{}, e
	}
	known := measure(m)
	if known[all(m)] == noHeight {
		return Tree{}, api.ErrNone
	}
	var nodes []Node
	var grow func(runs []run) int
	grow = func(runs []run) int {
		number := len(nodes)
		next := slices.Repeat([]int{api.None}, m.Outputs)
		if len(runs) == 1 {
			nodes = append(nodes, Node{Input: api.None, State: runs[0].start, Next: next})
			return number
		}
		b := block(runs)
		i := known.input(m, b, known[b]-1)
		// The node comes before those behind it, which are still to be numbered.
		nodes = append(nodes, Node{Input: i, State: api.None, Next: next})
		for out := range next {
			if some := after(m, runs, i, out); len(some) > 0 {
				next[out] = grow(some)
			}
		}
		return number
	}
	grow(starts(m))
	return Tree{Nodes: slices.Clip(nodes)}, api.OK
}

// fits reports whether a tree for a machine may have a node, whatever the numbers of its next ones.
func fits(m api.Machine, x Node) bool {
	if len(x.Next) != m.Outputs {
		return false
	}
	if x.Input == api.None {
		ends := !slices.ContainsFunc(x.Next, func(next int) bool { return next != api.None })
		return ends && x.State >= 0 && x.State < len(m.Rows)
	}
	return x.Input >= 0 && x.Input < m.Inputs && x.State == api.None
}

// preorder reports whether nodes are in preorder. There must be one: the root.
func preorder(nodes []Node) bool {
	visited := 0
	var visit func(number int) bool
	visit = func(number int) bool {
		if number != visited || number == len(nodes) {
			return false
		}
		visited++
		for _, next := range nodes[number].Next {
			if next != api.None && !visit(next) {
				return false
			}
		}
		return true
	}
	return visit(0) && visited == len(nodes)
}

// isTree reports whether a tree has the form of a tree for a machine.
func isTree(m api.Machine, t Tree) bool {
	if len(t.Nodes) > MaxNodes {
		return false
	}
	for _, x := range t.Nodes {
		if !fits(m, x) {
			return false
		}
	}
	return preorder(t.Nodes)
}

// identifies reports whether a tree, which has the form of one for a machine, identifies a state.
func identifies(m api.Machine, t Tree, s int) bool {
	now, x := s, t.Nodes[0]
	for x.Input != api.None {
		taken := m.Rows[now][x.Input]
		next := x.Next[taken.Out]
		if next == api.None {
			return false
		}
		now, x = taken.To, t.Nodes[next]
	}
	return x.State == s
}

// Check returns why a tree is not one that identifies every state, or OK. (P15.4)
func Check(m api.Machine, t Tree) api.Errno {
	if e := check(m); e != api.OK {
		return e
	}
	if !isTree(m, t) {
		return api.ErrForm
	}
	for s := range m.Rows {
		if !identifies(m, t, s) {
			return api.ErrFail
		}
	}
	return api.OK
}

// Identify returns the state that a tree names for outputs. (P15.5)
func Identify(t Tree, outputs []int) (int, api.Errno) {
	if len(t.Nodes) == 0 {
		return 0, api.ErrForm
	}
	x := t.Nodes[0]
	for _, out := range outputs {
		if x.Input == api.None {
			return 0, api.ErrCount
		}
		if out < 0 || out >= len(x.Next) {
			return 0, api.ErrNone
		}
		next := x.Next[out]
		if next < 0 || next >= len(t.Nodes) {
			return 0, api.ErrNone
		}
		x = t.Nodes[next]
	}
	if x.Input != api.None {
		return 0, api.ErrCount
	}
	return x.State, api.OK
}

// Height returns the height of a tree. (P15.6)
func Height(t Tree) int {
	// Each next node is greater, so from the last node on, what is behind a node is known before the node is looked at.
	behind := make([]int, len(t.Nodes))
	for n := len(t.Nodes) - 1; n >= 0; n-- {
		for _, next := range t.Nodes[n].Next {
			if next == api.None {
				continue
			}
			if next <= n || next >= len(t.Nodes) {
				return 0
			}
			behind[n] = max(behind[n], behind[next]+1)
		}
	}
	if len(behind) == 0 {
		return 0
	}
	return behind[0]
}
