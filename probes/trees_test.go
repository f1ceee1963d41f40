package probes_test

import (
	"fmt"
	"math"
	"reflect"
	"slices"
	"strconv"
	"strings"
	"testing"

	"gauntlet/api"
	"gauntlet/machines"
	"gauntlet/probes"
	"gauntlet/samples"
	"gauntlet/samples/propers"
)

// number reads a number, or - for None.
func number(s string) int {
	if s == "-" {
		return api.None
	}
	n, err := strconv.Atoi(s)
	if err != nil {
		panic(s)
	}
	return n
}

// tree reads a tree for so many outputs in the way of the chapter's examples, with - where there is no next node; of the empty text it has no nodes.
func tree(outputs int, s string) probes.Tree {
	t := probes.Tree{}
	if s == "" {
		return t
	}
	for _, part := range strings.Split(s, "; ") {
		if state, leaf := strings.CutPrefix(part, "leaf "); leaf {
			t.Nodes = append(t.Nodes, probes.Node{Input: api.None, State: number(state), Next: slices.Repeat([]int{api.None}, outputs)})
			continue
		}
		input, next, _ := strings.Cut(strings.TrimSuffix(part, ")"), " (")
		x := probes.Node{Input: number(input), State: api.None}
		for _, n := range strings.Split(next, ", ") {
			x.Next = append(x.Next, number(n))
		}
		t.Nodes = append(t.Nodes, x)
	}
	return t
}

// copied returns the same tree in other memory.
func copied(t probes.Tree) probes.Tree {
	nodes := slices.Clone(t.Nodes)
	for n, x := range nodes {
		nodes[n].Next = slices.Clone(x.Next)
	}
	return probes.Tree{Nodes: nodes}
}

// parts returns by the definition the blocks into which an input splits a block, ascending, by their outputs; false if it is not allowed.
func parts(m api.Machine, block []int, i int) (map[int][]int, bool) {
	all := map[int][]int{}
	for _, s := range block {
		x := m.Rows[s][i]
		if slices.Contains(all[x.Out], x.To) {
			return nil, false
		}
		all[x.Out] = append(all[x.Out], x.To)
		slices.Sort(all[x.Out])
	}
	return all, true
}

// noHeight is more than any height: a block has no height if it is not within that one.
const noHeight = 65

// measuring returns a function that returns by the definition the height of a block of a machine.
func measuring(m api.Machine) func(block []int) int {
	known := map[string]bool{}
	var within func(block []int, height int) bool
	within = func(block []int, height int) bool {
		if len(block) <= 1 || height == 0 {
			return len(block) <= 1
		}
		key := fmt.Sprint(block, height)
		if is, met := known[key]; met {
			return is
		}
		for i := range m.Inputs {
			all, allowed := parts(m, block, i)
			if !allowed {
				continue
			}
			is := true
			for _, part := range all {
				is = is && within(part, height-1)
			}
			if is {
				known[key] = true
				return true
			}
		}
		known[key] = false
		return false
	}
	return func(block []int) int {
		height := 0
		for height < noHeight && !within(block, height) {
			height++
		}
		return height
	}
}

// states returns all states of a machine.
func states(m api.Machine) []int {
	var all []int
	for s := range m.Rows {
		all = append(all, s)
	}
	return all
}

// treeOf returns by the definition the tree of a machine whose set of all states has a height.
func treeOf(m api.Machine) probes.Tree {
	height := measuring(m)
	// The nodes behind the root of such a tree have greater numbers by as many nodes as stand before it.
	var nodes func(starts []int, w []int, before int) []probes.Node
	nodes = func(starts []int, w []int, before int) []probes.Node {
		x := probes.Node{Input: api.None, State: api.None, Next: slices.Repeat([]int{api.None}, m.Outputs)}
		if len(starts) == 1 {
			x.State = starts[0]
			return []probes.Node{x}
		}
		var block []int
		for _, s := range starts {
			now, _ := machines.After(m, s, w)
			block = append(block, now)
		}
		slices.Sort(block)
		for i := range m.Inputs {
			all, allowed := parts(m, block, i)
			for _, part := range all {
				allowed = allowed && height(part) < height(block)
			}
			if allowed {
				x.Input = i
				break
			}
		}
		l := []probes.Node{x}
		longer := append(slices.Clip(w), x.Input)
		for out := range m.Outputs {
			some := slices.DeleteFunc(slices.Clone(starts), func(s int) bool {
				response, _ := machines.Run(m, s, longer)
				return response[len(w)] != out
			})
			if len(some) > 0 {
				x.Next[out] = before + len(l)
				l = append(l, nodes(some, longer, before+len(l))...)
			}
		}
		return l
	}
	return probes.Tree{Nodes: nodes(states(m), nil, 0)}
}

// formed reports by the definition whether a tree has the form of one for a machine.
func formed(m api.Machine, t probes.Tree) bool {
	count := len(t.Nodes)
	if count < 1 || count > 1024 {
		return false
	}
	var order []int
	for waiting := []int{0}; len(waiting) > 0; {
		n := waiting[0]
		waiting = waiting[1:]
		if n < 0 || n >= count || len(order) == count {
			return false
		}
		order = append(order, n)
		next := slices.DeleteFunc(slices.Clone(t.Nodes[n].Next), func(n int) bool { return n == api.None })
		waiting = append(next, waiting...)
	}
	for n, x := range t.Nodes {
		none := slices.Repeat([]int{api.None}, m.Outputs)
		leaf := x.Input == api.None && slices.Contains(states(m), x.State) && slices.Equal(x.Next, none)
		other := 0 <= x.Input && x.Input < m.Inputs && x.State == api.None && len(x.Next) == m.Outputs
		if n >= len(order) || order[n] != n || !leaf && !other {
			return false
		}
	}
	return true
}

// ending returns by the definition at which node a tree ends if it is followed from a node and a state; false if it is at an output without a next node.
func ending(m api.Machine, t probes.Tree, n, s int) (int, bool) {
	x := t.Nodes[n]
	if x.Input == api.None {
		return n, true
	}
	edge := m.Rows[s][x.Input]
	if x.Next[edge.Out] == api.None {
		return 0, false
	}
	return ending(m, t, x.Next[edge.Out], edge.To)
}

// checked returns by the definition what is wrong with a tree.
func checked(m api.Machine, t probes.Tree) api.Errno {
	if !formed(m, t) {
		return api.ErrForm
	}
	for s := range m.Rows {
		if n, ends := ending(m, t, 0, s); !ends || t.Nodes[n].State != s {
			return api.ErrFail
		}
	}
	return api.OK
}

// longest returns by the definition the height of a tree.
func longest(t probes.Tree) int {
	for n, x := range t.Nodes {
		for _, next := range x.Next {
			if next != api.None && (next <= n || next >= len(t.Nodes)) {
				return 0
			}
		}
	}
	var from func(n int) int
	from = func(n int) int {
		most := 0
		for _, next := range t.Nodes[n].Next {
			if next != api.None {
				most = max(most, 1+from(next))
			}
		}
		return most
	}
	if len(t.Nodes) == 0 {
		return 0
	}
	return from(0)
}

// wantTree holds what was returned against a tree.
func wantTree(t *testing.T, name string, got probes.Tree, e api.Errno, want probes.Tree) {
	t.Helper()
	if e != api.OK || !reflect.DeepEqual(got, want) {
		t.Errorf("%s: %v, error %d; want %v", name, got, e, want)
	}
	if cap(got.Nodes) != len(got.Nodes) || slices.ContainsFunc(got.Nodes, func(x probes.Node) bool { return cap(x.Next) != len(x.Next) }) {
		t.Errorf("%s: more capacity than length", name)
	}
}

// P15.3, P15.6
func TestBuild(t *testing.T) {
	for _, x := range []struct {
		name   string
		m      api.Machine
		want   string
		height int
	}{
		{"example", propers.Example(), "0 (1, 4); 0 (2, 3); leaf 0; leaf 1; leaf 2", 2},
		{"one state", propers.Resting(1), "leaf 0", 0},
		{"one state, 16 inputs", propers.Resting(16), "leaf 0", 0},
		{"two states", propers.Late(2), "0 (1, 2); leaf 0; leaf 1", 1},
		{"an output that no state has", samples.Machine(1, 4, []api.Edge{{To: 1, Out: 3}}, []api.Edge{{To: 0, Out: 1}}), "0 (-, 1, -, 2); leaf 1; leaf 0", 1},
		{"ring", propers.Late(4), "0 (1, 6); 0 (2, 5); 0 (3, 4); leaf 0; leaf 1; leaf 2; leaf 3", 3},
		{"no preset word", forked(), "0 (1, 4); 1 (2, 3); leaf 0; leaf 1; 2 (5, 6); leaf 2; leaf 3", 2},
		{"the least input is not the best one", samples.Machine(2, 2, []api.Edge{{To: 1}, {To: 1}}, []api.Edge{{To: 0}, {To: 0, Out: 1}}), "1 (1, 2); leaf 0; leaf 1", 1},
		{"states that were told apart meet", samples.Machine(1, 3, []api.Edge{{To: 1, Out: 0}}, []api.Edge{{To: 2, Out: 1}}, []api.Edge{{To: 1, Out: 2}}), "0 (1, 2, 3); leaf 0; leaf 1; leaf 2", 1},
	} {
		got, e := probes.Build(x.m)
		wantTree(t, x.name, got, e, tree(x.m.Outputs, x.want))
		if height := probes.Height(got); height != x.height {
			t.Errorf("%s: height %d; want %d", x.name, height, x.height)
		}
	}
	for _, m := range []api.Machine{lost(), meeting(), hidden(), propers.Doors(3)} {
		if got, e := probes.Build(m); got.Nodes != nil || e != api.ErrNone {
			t.Errorf("%v: %v, error %d", m, got, e)
		}
	}
}

// wantBuilt holds the tree of a machine, and its height, against the definitions; it returns the height, noHeight if there is none.
func wantBuilt(t *testing.T, m api.Machine) int {
	t.Helper()
	height := measuring(m)(states(m))
	got, e := probes.Build(m)
	if height == noHeight {
		if got.Nodes != nil || e != api.ErrNone {
			t.Errorf("%v: %v, error %d; want error %d", m, got, e, api.ErrNone)
		}
		return noHeight
	}
	wantTree(t, fmt.Sprint(m), got, e, treeOf(m))
	if probes.Height(got) != height {
		t.Errorf("%v: height %d; want %d", m, probes.Height(got), height)
	}
	return height
}

// P15.3, P15.6
func TestBuildByTheDefinition(t *testing.T) {
	without, most, nodes := 0, 0, 0
	for _, m := range few() {
		height := wantBuilt(t, m)
		if height == noHeight {
			without++
			continue
		}
		x, _ := probes.Build(m)
		most, nodes = max(most, height), max(nodes, len(x.Nodes))
	}
	// The machines must not be too simple.
	if without < 30 || most < 15 || nodes < 20 {
		t.Errorf("%d machines have no tree; height %d, %d nodes", without, most, nodes)
	}
	for _, m := range slices.Concat(propers.Small(), propers.Threes()) {
		wantBuilt(t, m)
	}
}

// P15.4
func TestCheck(t *testing.T) {
	for _, x := range []struct {
		name string
		m    api.Machine
		t    string
		want api.Errno
	}{
		{"example", propers.Example(), "0 (1, 4); 0 (2, 3); leaf 0; leaf 1; leaf 2", api.OK},
		{"no nodes", propers.Example(), "", api.ErrForm},
		{"a leaf alone", propers.Example(), "leaf 0", api.ErrFail},
		{"the leaf of another state", propers.Example(), "0 (1, 4); 0 (2, 3); leaf 1; leaf 0; leaf 2", api.ErrFail},
		{"the leaf of another state in the last node", propers.Example(), "0 (1, 4); 0 (2, 3); leaf 0; leaf 1; leaf 1", api.ErrFail},
		{"a state too great", propers.Example(), "0 (1, 4); 0 (2, 3); leaf 0; leaf 1; leaf 3", api.ErrForm},
		{"a state too small", propers.Example(), "0 (1, 4); 0 (2, 3); leaf 0; leaf 1; leaf -1", api.ErrForm},
		{"an input too great", propers.Example(), "0 (1, 4); 2 (2, 3); leaf 0; leaf 1; leaf 2", api.ErrForm},
		{"an input too small", propers.Example(), "-2 (1, 4); 0 (2, 3); leaf 0; leaf 1; leaf 2", api.ErrForm},
		{"the other input", propers.Example(), "0 (1, 4); 1 (2, 3); leaf 0; leaf 1; leaf 2", api.ErrFail},
		{"another tree", propers.Example(), "1 (1, 4); 0 (2, 3); leaf 0; leaf 2; leaf 1", api.OK},
		{"higher than it needs to be", propers.Example(), "0 (1, 6); 0 (2, 5); 1 (-, 3); 0 (4, -); leaf 0; leaf 1; leaf 2", api.ErrFail},
		{"higher than it needs to be, and right", propers.Example(), "0 (1, 6); 0 (2, 5); 1 (3, -); 0 (-, 4); leaf 0; leaf 1; leaf 2", api.OK},
		{"a next node is missing", propers.Example(), "0 (1, 3); 0 (2, -); leaf 0; leaf 2", api.ErrFail},
		{"the last next node is missing", propers.Example(), "0 (1, -); 0 (2, 3); leaf 0; leaf 1", api.ErrFail},
		{"no next nodes", propers.Example(), "0 (-, -)", api.ErrFail},
		{"nodes where no state leads", propers.Example(), "0 (1, 4); 0 (2, 3); leaf 0; leaf 1; 0 (5, 8); 1 (6, 7); leaf 2; leaf 1; leaf 0", api.ErrFail},
		{"not in preorder: by levels", propers.Example(), "0 (1, 2); 0 (3, 4); leaf 2; leaf 0; leaf 1", api.ErrForm},
		{"not in preorder: the outputs from the last one on", propers.Example(), "0 (2, 1); leaf 2; 0 (3, 4); leaf 0; leaf 1", api.ErrForm},
		{"not in preorder: the root is not the first one", propers.Example(), "0 (2, 3); leaf 0; leaf 1; leaf 2; 0 (0, 3)", api.ErrForm},
		{"not in preorder: a node from behind another one", propers.Example(), "0 (1, 3); 0 (2, 4); leaf 0; leaf 2; leaf 1", api.ErrForm},
		{"a node twice", propers.Example(), "0 (1, 3); 0 (2, 2); leaf 0; leaf 2", api.ErrForm},
		{"a node of two others", propers.Example(), "0 (1, 3); 0 (2, 3); leaf 0; leaf 2", api.ErrForm},
		{"a node that is next of none", propers.Example(), "0 (1, 4); 0 (2, 3); leaf 0; leaf 1; leaf 2; leaf 2", api.ErrForm},
		{"a node that is next of none, in between", propers.Example(), "0 (1, 5); 0 (2, 3); leaf 0; leaf 1; leaf 1; leaf 2", api.ErrForm},
		{"two trees", propers.Resting(1), "leaf 0; leaf 0", api.ErrForm},
		{"a node that is not there", propers.Example(), "0 (1, 4); 0 (2, 3); leaf 0; leaf 1", api.ErrForm},
		{"a node next of itself", propers.Example(), "0 (0, 1); leaf 0", api.ErrForm},
		{"back to the root", propers.Example(), "0 (1, 2); 0 (0, -); leaf 2", api.ErrForm},
		{"a negative number", propers.Example(), "0 (1, 4); 0 (2, 3); leaf 0; leaf 1; 0 (-2, -)", api.ErrForm},
		{"too few outputs", propers.Example(), "0 (1); leaf 0", api.ErrForm},
		{"too many outputs", propers.Example(), "0 (1, 4, -); 0 (2, 3, -); leaf 0; leaf 1; leaf 2", api.ErrForm},
		{"one state", propers.Resting(1), "leaf 0", api.OK},
		{"one state, another leaf", propers.Resting(1), "leaf 1", api.ErrForm},
		{"one state, an input", propers.Resting(2), "1 (1); leaf 0", api.OK},
		{"one state, an input without a next node", propers.Resting(2), "1 (-)", api.ErrFail},
		{"no preset word", forked(), "0 (1, 4); 1 (2, 3); leaf 0; leaf 1; 2 (5, 6); leaf 2; leaf 3", api.OK},
		{"states meet", forked(), "0 (1, 4); 1 (2, 3); leaf 0; leaf 1; 1 (5, 6); leaf 2; leaf 3", api.ErrFail},
		{"nothing behind, and an output that no state has, is all right", samples.Machine(1, 3, []api.Edge{{To: 1, Out: 2}}, []api.Edge{{To: 0, Out: 0}}), "0 (1, 2, 5); leaf 1; 0 (3, -, 4); 0 (-, -, -); leaf 1; leaf 0", api.OK},
	} {
		got := probes.Check(x.m, tree(x.m.Outputs, x.t))
		if got != x.want {
			t.Errorf("%s: error %d; want %d", x.name, got, x.want)
		}
		if by := checked(x.m, tree(x.m.Outputs, x.t)); by != x.want {
			t.Errorf("%s: by the definition error %d; want %d", x.name, by, x.want)
		}
	}
}

// P15.4
func TestCheckOfOddNodes(t *testing.T) {
	m := propers.Example()
	for _, x := range []struct {
		name   string
		change func(nodes []probes.Node)
	}{
		{"a leaf with an input", func(nodes []probes.Node) { nodes[2].Input = 0 }},
		{"an inner node with a state", func(nodes []probes.Node) { nodes[1].State = 0 }},
		{"an inner node with a negative state", func(nodes []probes.Node) { nodes[1].State = -2 }},
		{"the root with a state", func(nodes []probes.Node) { nodes[0].State = 2 }},
		{"an inner node that would be a leaf", func(nodes []probes.Node) { nodes[1].Input, nodes[1].State = api.None, 0 }},
		{"a leaf without a state", func(nodes []probes.Node) { nodes[4].State = api.None }},
		{"a leaf without next ones, nil", func(nodes []probes.Node) { nodes[4].Next = nil }},
		{"a leaf with too few of them", func(nodes []probes.Node) { nodes[3].Next = []int{-1} }},
		{"a leaf with too many of them", func(nodes []probes.Node) { nodes[2].Next = []int{-1, -1, -1} }},
		{"a leaf with a next node", func(nodes []probes.Node) { nodes[2].Next[0], nodes[1].Next[1] = 3, -1 }},
		{"a leaf with a next node that is not there", func(nodes []probes.Node) { nodes[4].Next[1] = 5 }},
		{"a leaf with a negative next node", func(nodes []probes.Node) { nodes[4].Next[1] = -2 }},
		{"the root without next ones", func(nodes []probes.Node) { nodes[0].Next = []int{} }},
		{"extreme next ones", func(nodes []probes.Node) { nodes[1].Next = []int{math.MaxInt, math.MinInt} }},
		{"extreme input", func(nodes []probes.Node) { nodes[1].Input = math.MaxInt }},
		{"least input", func(nodes []probes.Node) { nodes[1].Input = math.MinInt }},
		{"extreme state", func(nodes []probes.Node) { nodes[2].State = math.MaxInt }},
		{"an input beyond many numbers", func(nodes []probes.Node) { nodes[0].Input = 1 << 32 }},
		{"a next node beyond many numbers", func(nodes []probes.Node) { nodes[0].Next[0] = 1<<32 + 1 }},
	} {
		odd, _ := probes.Build(m)
		x.change(odd.Nodes)
		if e := probes.Check(m, odd); e != api.ErrForm || checked(m, odd) != api.ErrForm {
			t.Errorf("%s: error %d, by the definition %d", x.name, e, checked(m, odd))
		}
	}
}

// wantChecked holds Check and Height of a tree against the definitions.
func wantChecked(t *testing.T, m api.Machine, x probes.Tree) {
	t.Helper()
	if e := probes.Check(m, x); e != checked(m, x) {
		t.Errorf("Check of %v for %v: error %d; want %d", x, m, e, checked(m, x))
	}
	if height := probes.Height(x); height != longest(x) {
		t.Errorf("Height of %v: %d; want %d", x, height, longest(x))
	}
}

// changedAt calls a function with trees that are a given one but for a node.
func changedAt(m api.Machine, x probes.Tree, n int, try func(x probes.Tree)) {
	with := func(change func(node *probes.Node)) {
		other := copied(x)
		change(&other.Nodes[n])
		try(other)
	}
	for _, k := range []int{-2, -1, 0, 1, 2, m.Inputs - 1, m.Inputs, len(m.Rows) - 1, len(m.Rows), 16} {
		with(func(node *probes.Node) { node.Input = k })
		with(func(node *probes.Node) { node.State = k })
		with(func(node *probes.Node) { node.Input, node.State = api.None, k })
		with(func(node *probes.Node) { node.Input, node.State = k, api.None })
	}
	for out := range m.Outputs {
		for k := -2; k <= len(x.Nodes); k++ {
			with(func(node *probes.Node) { node.Next[out] = k })
		}
		with(func(node *probes.Node) { node.Next[0], node.Next[out] = node.Next[out], node.Next[0] })
	}
	with(func(node *probes.Node) { node.Next = node.Next[:m.Outputs-1] })
	with(func(node *probes.Node) { node.Next = append(node.Next, api.None) })
	try(probes.Tree{Nodes: slices.Delete(copied(x).Nodes, n, n+1)})
	try(probes.Tree{Nodes: slices.Insert(copied(x).Nodes, n, x.Nodes[n])})
	for k := range n {
		other := copied(x)
		other.Nodes[k], other.Nodes[n] = other.Nodes[n], other.Nodes[k]
		try(other)
	}
}

// P15.4, P15.6
func TestChangedTreesByTheDefinition(t *testing.T) {
	for n, m := range few() {
		x, e := probes.Build(m)
		if n%9 != 0 && n > 12 || e != api.OK || len(x.Nodes) > 12 {
			continue
		}
		for k := range x.Nodes {
			changedAt(m, x, k, func(other probes.Tree) { wantChecked(t, m, other) })
		}
	}
}

// oddTrees calls a function with all trees of so many nodes with two outputs whose numbers are of some lists.
func oddTrees(nodes int, inputs, states, next []int, try func(x probes.Tree)) {
	var all []probes.Node
	for _, i := range inputs {
		for _, s := range states {
			for _, a := range next {
				for _, b := range next {
					all = append(all, probes.Node{Input: i, State: s, Next: []int{a, b}})
				}
			}
		}
	}
	var extend func(x []probes.Node)
	extend = func(x []probes.Node) {
		if len(x) == nodes {
			try(probes.Tree{Nodes: x})
			return
		}
		for _, node := range all {
			extend(append(slices.Clip(x), node))
		}
	}
	extend(nil)
}

// P15.4, P15.6
func TestOddTreesByTheDefinition(t *testing.T) {
	ring, one := propers.Late(2), samples.Machine(2, 2, []api.Edge{{Out: 1}, {}})
	both := func(x probes.Tree) {
		wantChecked(t, ring, x)
		wantChecked(t, one, x)
	}
	oddTrees(1, []int{-2, -1, 0, 1, 2}, []int{-2, -1, 0, 1, 2}, []int{-2, -1, 0, 1, 2}, both)
	oddTrees(2, []int{-1, 0, 1}, []int{-1, 0, 1}, []int{-1, 0, 1, 2}, both)
	oddTrees(3, []int{-1, 0}, []int{-1, 0}, []int{-1, 1, 2}, both)
	// Where a leaf has next nodes, the form is wrong anyway: the height counts.
	count := 0
	oddTrees(4, []int{0}, []int{-1}, []int{-1, 1, 2, 3}, func(x probes.Tree) {
		count++
		if height := probes.Height(x); height != longest(x) {
			t.Errorf("Height of %v: %d; want %d", x, height, longest(x))
		}
		if count%97 == 0 {
			wantChecked(t, ring, x)
		}
	})
}

// trees returns all trees for a machine of at most a height, in preorder, whose nodes have the numbers from another one on.
func trees(m api.Machine, height, from int) [][]probes.Node {
	var all [][]probes.Node
	for s := range m.Rows {
		all = append(all, []probes.Node{{Input: api.None, State: s, Next: slices.Repeat([]int{api.None}, m.Outputs)}})
	}
	if height == 0 {
		return all
	}
	for i := range m.Inputs {
		begun := [][]probes.Node{{{Input: i, State: api.None}}}
		for range m.Outputs {
			var more [][]probes.Node
			for _, l := range begun {
				with := func(next int, behind []probes.Node) {
					root := l[0]
					root.Next = append(slices.Clip(root.Next), next)
					more = append(more, slices.Concat([]probes.Node{root}, l[1:], behind))
				}
				with(api.None, nil)
				for _, behind := range trees(m, height-1, from+len(l)) {
					with(from+len(l), behind)
				}
			}
			begun = more
		}
		all = append(all, begun...)
	}
	return all
}

// leastHeight returns the height of the lowest one of some trees, which have the form of one for a machine, that passes Check, noHeight if none does.
func leastHeight(t *testing.T, m api.Machine, all [][]probes.Node) int {
	t.Helper()
	lowest := noHeight
	for _, nodes := range all {
		x := probes.Tree{Nodes: nodes}
		e := probes.Check(m, x)
		if e != checked(m, x) || e == api.ErrForm {
			t.Fatalf("Check of %v for %v: error %d; want %d", x, m, e, checked(m, x))
		}
		if e == api.OK {
			lowest = min(lowest, probes.Height(x))
		}
	}
	return lowest
}

// P15.4, P15.7
func TestNoLesserTree(t *testing.T) {
	const most = 2
	some := []api.Machine{propers.Example(), lost(), meeting()}
	for n, m := range propers.Threes() {
		if n%150 == 0 {
			some = append(some, m)
		}
	}
	heights := map[int]int{}
	all := trees(propers.Example(), most, 0)
	for _, m := range some {
		x, _ := probes.Build(m)
		want := measuring(m)(states(m))
		heights[want]++
		lowest := leastHeight(t, m, all)
		if want <= most && (lowest != want || probes.Height(x) != want) || want > most && lowest != noHeight {
			t.Errorf("%v: a tree of height %d passes, that of the machine has %d, all states %d", m, lowest, probes.Height(x), want)
		}
	}
	if len(all) != 2595 || min(heights[2], heights[noHeight]) < 10 {
		t.Errorf("%d trees; heights: %v", len(all), heights)
	}
}

// long returns a tree for two states, one input and three outputs with so many nodes: behind the output that no state has there are all but three of them.
func long(nodes int) probes.Tree {
	x := tree(3, "0 (1, 2, 3); leaf 0; leaf 1")
	for n := 3; n < nodes; n++ {
		x.Nodes = append(x.Nodes, probes.Node{Input: 0, State: api.None, Next: []int{api.None, n + 1, api.None}})
	}
	x.Nodes[nodes-1].Next[1] = api.None
	return x
}

// P15.4, P15.6
func TestTreesUpToTheLimit(t *testing.T) {
	if probes.MaxNodes != 1024 {
		t.Errorf("MaxNodes is %d", probes.MaxNodes)
	}
	m := samples.Machine(1, 3, []api.Edge{{To: 1, Out: 0}}, []api.Edge{{To: 0, Out: 1}})
	for _, x := range []struct {
		nodes int
		want  api.Errno
	}{{4, api.OK}, {1023, api.OK}, {1024, api.OK}, {1025, api.ErrForm}, {1026, api.ErrForm}, {200000, api.ErrForm}} {
		if e := probes.Check(m, long(x.nodes)); e != x.want {
			t.Errorf("%d nodes: error %d; want %d", x.nodes, e, x.want)
		}
		if height := probes.Height(long(x.nodes)); height != x.nodes-3 {
			t.Errorf("%d nodes: height %d", x.nodes, height)
		}
	}
	wrong := long(1024)
	wrong.Nodes[1].State, wrong.Nodes[2].State = 1, 0
	if e := probes.Check(m, wrong); e != api.ErrFail {
		t.Errorf("1024 nodes, and the wrong leaves: error %d", e)
	}
	wide := probes.Tree{Nodes: []probes.Node{{Next: slices.Repeat([]int{api.None}, 100000)}}}
	if e := probes.Check(m, wide); e != api.ErrForm || probes.Height(wide) != 0 {
		t.Errorf("100000 outputs: error %d, height %d", e, probes.Height(wide))
	}
}

// P15.5
func TestIdentify(t *testing.T) {
	example := "0 (1, 4); 0 (2, 3); leaf 0; leaf 1; leaf 2"
	for _, x := range []struct {
		name    string
		t       string
		outputs []int
		want    int
		e       api.Errno
	}{
		{"example", example, []int{0, 0}, 0, api.OK},
		{"example", example, []int{0, 1}, 1, api.OK},
		{"example", example, []int{1}, 2, api.OK},
		{"too few", example, []int{0}, 0, api.ErrCount},
		{"none", example, nil, 0, api.ErrCount},
		{"none, empty", example, []int{}, 0, api.ErrCount},
		{"too many", example, []int{1, 0}, 0, api.ErrCount},
		{"too many at the end", example, []int{0, 1, 1}, 0, api.ErrCount},
		{"too many, but no outputs", example, []int{1, 7, -3}, 0, api.ErrCount},
		{"far too many", example, make([]int, 100000), 0, api.ErrCount},
		{"an output too great", example, []int{2}, 0, api.ErrNone},
		{"an output too great behind another one", example, []int{0, 2}, 0, api.ErrNone},
		{"a negative output", example, []int{-1}, 0, api.ErrNone},
		{"extreme outputs", example, []int{math.MaxInt, math.MinInt}, 0, api.ErrNone},
		{"an output too small", example, []int{0, math.MinInt}, 0, api.ErrNone},
		{"an output beyond many numbers", example, []int{1 << 32}, 0, api.ErrNone},
		{"an output too great before too many", example, []int{2, 0, 0, 0}, 0, api.ErrNone},
		{"no nodes", "", nil, 0, api.ErrForm},
		{"no nodes, but an output", "", []int{0}, 0, api.ErrForm},
		{"a leaf alone", "leaf 3", nil, 3, api.OK},
		{"a leaf alone, and an output", "leaf 3", []int{0}, 0, api.ErrCount},
		{"a leaf without a state", "leaf -1", nil, -1, api.OK},
		{"a leaf with any state", "0 (1, -); leaf -70", []int{0}, -70, api.OK},
		{"no next node", "0 (1, -); leaf 0", []int{1}, 0, api.ErrNone},
		{"no next node before others", "0 (1, -); leaf 0", []int{1, 0}, 0, api.ErrNone},
		{"the number of no node", "0 (1, 2); leaf 0", []int{1}, 0, api.ErrNone},
		{"the number of no node, negative", "0 (1, -2); leaf 0", []int{1}, 0, api.ErrNone},
		{"the number of no node, great", "0 (1, 4294967297); leaf 0", []int{1}, 0, api.ErrNone},
		{"a number that is not met", "0 (1, 7); leaf 5", []int{0}, 5, api.OK},
		{"a number that is not met behind the leaf", "0 (2, 1); 0 (-5, 9); leaf 5", []int{0}, 5, api.OK},
		{"not in preorder", "0 (2, 1); leaf 5; 0 (1, 3); leaf 6", []int{0, 0}, 5, api.OK},
		{"a circle", "0 (0, 1); leaf 4", []int{0, 0, 0, 0, 0, 1}, 4, api.OK},
		{"a circle that is not left", "0 (0, 1); leaf 4", make([]int, 100000), 0, api.ErrCount},
		{"back and forth", "3 (1, -); 9 (2, 0); leaf 8", []int{0, 1, 0, 1, 0, 0}, 8, api.OK},
		{"an input that no machine has", "-9 (1, -); leaf 1", []int{0}, 1, api.OK},
		{"different numbers of outputs", "0 (1); 0 (-, -, -, 2); leaf 1", []int{0, 3}, 1, api.OK},
	} {
		got, e := probes.Identify(tree(2, x.t), x.outputs)
		if got != x.want || e != x.e {
			t.Errorf("%s, %v: %d, error %d; want %d, error %d", x.name, x.outputs[:min(len(x.outputs), 10)], got, e, x.want, x.e)
		}
	}
}

// P15.4, P15.5, P15.6
func TestTreesWithoutNodes(t *testing.T) {
	for _, nodes := range [][]probes.Node{nil, {}, make([]probes.Node, 0, 5)} {
		x := probes.Tree{Nodes: nodes}
		for _, m := range named() {
			if e := probes.Check(m, x); e != api.ErrForm {
				t.Errorf("Check: error %d", e)
			}
		}
		for _, outputs := range [][]int{nil, {}, {0}, {-1}, {5, 5}} {
			if got, e := probes.Identify(x, outputs); got != 0 || e != api.ErrForm {
				t.Errorf("Identify by %v: %d, error %d", outputs, got, e)
			}
		}
		if got := probes.Height(x); got != 0 {
			t.Errorf("Height: %d", got)
		}
	}
}

// P15.5
func TestIdentifyByOddNodes(t *testing.T) {
	odd := probes.Tree{Nodes: []probes.Node{
		{Input: 4, State: 9, Next: []int{1, 2}},
		{Input: api.None, State: 6, Next: []int{2}},
		{Input: -2, State: 7},
	}}
	for _, x := range []struct {
		name    string
		outputs []int
		want    int
		e       api.Errno
	}{
		{"a leaf with a next node", []int{0}, 6, api.OK},
		{"behind a leaf", []int{0, 0}, 0, api.ErrCount},
		{"no leaf, although it has a state and no next nodes", []int{1}, 0, api.ErrCount},
		{"nothing behind", []int{1, 0}, 0, api.ErrNone},
		{"no outputs", nil, 0, api.ErrCount},
	} {
		if got, e := probes.Identify(odd, x.outputs); got != x.want || e != x.e {
			t.Errorf("%s: %d, error %d; want %d, error %d", x.name, got, e, x.want, x.e)
		}
	}
	zero := probes.Tree{Nodes: []probes.Node{{}}}
	if got, e := probes.Identify(zero, nil); got != 0 || e != api.ErrCount {
		t.Errorf("the zero node, which has the input 0: %d, error %d", got, e)
	}
}

// P15.6
func TestHeight(t *testing.T) {
	for _, x := range []struct {
		name string
		t    string
		want int
	}{
		{"example", "0 (1, 4); 0 (2, 3); leaf 0; leaf 1; leaf 2", 2},
		{"no nodes", "", 0},
		{"a leaf", "leaf 0", 0},
		{"a leaf without a state", "leaf -1", 0},
		{"no next nodes", "0 (-, -)", 0},
		{"one next node", "0 (-, 1); leaf 0", 1},
		{"the last way is the longest", "0 (1, 2); leaf 0; 0 (3, 4); leaf 1; 0 (5, -); leaf 1", 3},
		{"the first way is the longest", "0 (1, 4); 0 (2, -); 0 (3, -); leaf 1; leaf 1", 3},
		{"a node behind two others", "0 (1, 2); 0 (2, -); 0 (3, -); leaf 1", 3},
		{"not in preorder", "0 (2, 1); leaf 1; 0 (-, 3); leaf 1", 2},
		{"nodes that no way leads to", "0 (1, -); leaf 0; 0 (3, -); 0 (4, -); leaf 0", 1},
		{"the root alone, and others", "leaf 0; 0 (2, -); leaf 1", 0},
		{"different numbers of outputs", "0 (1); 0 (-, -, -, 2); leaf 1", 2},
		{"inputs that no machine has", "99 (1, -); -7 (2, -); leaf 88", 2},
		{"a node next of itself", "0 (1, 2); leaf 0; 0 (2, -)", 0},
		{"the root next of itself", "0 (0, -)", 0},
		{"back", "0 (1, -); 0 (2, -); 0 (1, -)", 0},
		{"a node that is not there", "0 (1, 2); leaf 0", 0},
		{"a node that is not there, at the end", "0 (1, -); 0 (2, -); 0 (-, 3)", 0},
		{"a negative number", "0 (1, -2); leaf 0", 0},
		{"great", "0 (1, 4294967297); leaf 0", 0},
		{"a node that no way leads to has a next one that is not there", "0 (1, -); leaf 0; 0 (9, -)", 0},
		{"a node that no way leads to is next of itself", "0 (1, -); leaf 0; 0 (-, 2)", 0},
		{"a node that no way leads to, back", "0 (1, -); leaf 0; 0 (0, -)", 0},
		{"as many as 9 nodes", "0 (1); 0 (2); 0 (3); 0 (4); 0 (5); 0 (6); 0 (7); 0 (8); leaf 0", 8},
	} {
		if got := probes.Height(tree(2, x.t)); got != x.want {
			t.Errorf("%s: %d; want %d", x.name, got, x.want)
		}
	}
	behind := tree(2, "0 (1, -); leaf 0; leaf 0; leaf 0")
	behind.Nodes[1].Next[1], behind.Nodes[2].Next[0] = 2, 3
	if got := probes.Height(behind); got != 3 {
		t.Errorf("behind leaves: %d", got)
	}
	behind.Nodes[3].Next = []int{math.MaxInt}
	if got := probes.Height(behind); got != 0 {
		t.Errorf("extreme behind leaves: %d", got)
	}
	// With so many ways to the same nodes, each way cannot be gone.
	knit := probes.Tree{}
	for n := range 1000 {
		knit.Nodes = append(knit.Nodes, probes.Node{Next: []int{n + 1, n + 1, min(n+2, 1000)}})
	}
	knit.Nodes = append(knit.Nodes, probes.Node{})
	if got := probes.Height(knit); got != 1000 {
		t.Errorf("many ways: %d", got)
	}
}

// answers returns the outputs of a machine that is given the inputs of a tree, started in a state.
func answers(m api.Machine, t probes.Tree, s int) []int {
	var outputs []int
	for n := 0; t.Nodes[n].Input != api.None; {
		x, _ := machines.Step(m, s, t.Nodes[n].Input)
		outputs = append(outputs, x.Out)
		n, s = t.Nodes[n].Next[x.Out], x.To
	}
	return outputs
}

// P15.5, P15.7
func TestConsequences(t *testing.T) {
	for _, m := range slices.Concat(few(), propers.Small()) {
		x, e := probes.Build(m)
		if e == api.OK {
			if f := probes.Check(m, x); f != api.OK {
				t.Errorf("%v: its tree does not pass, error %d", m, f)
			}
			for s := range m.Rows {
				if got, f := probes.Identify(x, answers(m, x, s)); got != s || f != api.OK {
					t.Errorf("%v: its tree tells %d of %d, error %d", m, got, s, f)
				}
			}
		}
		w, none := probes.Preset(m, api.MaxWord)
		if none != api.OK {
			continue
		}
		if e != api.OK || probes.Height(x) > len(w) {
			t.Errorf("%v: height %d, error %d; preset is %v", m, probes.Height(x), e, w)
		}
		for s := range m.Rows {
			if own, f := probes.Uio(m, s, len(w)); f != api.OK || len(own) > len(w) || !singles(m, w, s) {
				t.Errorf("%v: %v is preset, but for %d there is %v, error %d", m, w, s, own, f)
			}
		}
	}
}

// Rules R1 and R4: arguments stay as they are, and results share memory neither with them nor with each other.
func TestTreesAreNeitherChangedNorShared(t *testing.T) {
	for _, m := range named() {
		before := samples.Clone(m)
		x, e := probes.Build(m)
		if e != api.OK {
			continue
		}
		want := copied(x)
		outputs := answers(m, x, 0)
		same := slices.Clone(outputs)
		probes.Check(m, x)
		probes.Identify(x, outputs)
		probes.Height(x)
		if !reflect.DeepEqual(x, want) || !slices.Equal(outputs, same) || !machines.Same(m, before) {
			t.Errorf("changed: %v, %v, %v", x, outputs, m)
		}
		for n, node := range x.Nodes {
			for out := range node.Next {
				node.Next[out] = 100 + n
			}
			x.Nodes[n].State = 100 + n
		}
		for n, node := range x.Nodes {
			if !slices.Equal(node.Next, slices.Repeat([]int{100 + n}, m.Outputs)) {
				t.Errorf("nodes of %v share their memory", m)
			}
		}
		again, e := probes.Build(m)
		wantTree(t, "again", again, e, want)
	}
}
