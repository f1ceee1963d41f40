package tries_test

import (
	"math"
	"slices"
	"strconv"
	"testing"

	"gauntlet/api"
	"gauntlet/samples/lists"
	"gauntlet/tries"
	"gauntlet/words"
)

// trieOf returns by the definition the trie of ascending words, which may be more, and longer, than those of a valid list.
func trieOf(l [][]int, inputs int) tries.Trie {
	x := tries.Trie{Inputs: inputs}
	prefixes := lists.Prefixes(l)
	for _, u := range prefixes {
		node := tries.Node{End: lists.Has(l, u)}
		for i := range inputs {
			n, found := slices.BinarySearchFunc(prefixes, append(slices.Clone(u), i), words.Compare)
			if !found {
				n = api.None
			}
			node.Next = append(node.Next, n)
		}
		x.Nodes = append(x.Nodes, node)
	}
	return x
}

// trie returns a trie with these nodes.
func trie(inputs int, nodes ...tries.Node) tries.Trie {
	return tries.Trie{Inputs: inputs, Nodes: nodes}
}

// inner returns a node that is not the end of a word.
func inner(next ...int) tries.Node { return tries.Node{Next: next} }

// end returns a node that is the end of a word.
func end(next ...int) tries.Node { return tries.Node{Next: next, End: true} }

// chain returns nodes with one input each of which leads to the next one, but for the last one, which is an end.
func chain(nodes int) tries.Trie {
	x := tries.Trie{Inputs: 1}
	for n := range nodes - 1 {
		x.Nodes = append(x.Nodes, inner(n+1))
	}
	return trie(1, append(x.Nodes, end(api.None))...)
}

// bush returns a tree in which 16 nodes follow each node of so many levels.
func bush(levels int) tries.Trie {
	x := tries.Trie{Inputs: 16}
	next, behind, width := 1, 0, 1
	for range levels {
		behind, width = behind+width, 16*width
	}
	for n := range behind + width {
		row := lists.Repeat(api.None, 16)
		for i := range row {
			if n < behind {
				row[i] = next
				next++
			}
		}
		x.Nodes = append(x.Nodes, tries.Node{Next: row, End: n >= behind})
	}
	return x
}

// sameTrie reports whether two tries are the same.
func sameTrie(a, b tries.Trie) bool {
	return a.Inputs == b.Inputs && slices.EqualFunc(a.Nodes, b.Nodes, func(x, y tries.Node) bool {
		return x.End == y.End && slices.Equal(x.Next, y.Next)
	})
}

// copiedTrie returns the same trie in other memory.
func copiedTrie(x tries.Trie) tries.Trie {
	nodes := slices.Clone(x.Nodes)
	for n := range nodes {
		nodes[n].Next = slices.Clone(nodes[n].Next)
	}
	return trie(x.Inputs, nodes...)
}

// code returns a string that tells a trie.
func code(x tries.Trie) string {
	b := strconv.AppendInt(nil, int64(x.Inputs), 10)
	for _, node := range x.Nodes {
		b = strconv.AppendBool(append(b, ' '), node.End)
		for _, next := range node.Next {
			b = strconv.AppendInt(append(b, ' '), int64(next), 10)
		}
	}
	return string(b)
}

// brief returns the beginning of what a failure tells.
func brief(s string) string {
	return s[:min(len(s), 300)]
}

// wantTrie holds what was returned against a trie.
func wantTrie(t *testing.T, name string, got tries.Trie, e api.Errno, want tries.Trie) {
	t.Helper()
	if e != api.OK || !sameTrie(got, want) {
		t.Errorf("%s: error %d, %s; want %s", name, e, brief(code(got)), brief(code(want)))
	}
	if cap(got.Nodes) != len(got.Nodes) || slices.ContainsFunc(got.Nodes, func(x tries.Node) bool { return cap(x.Next) != len(x.Next) }) {
		t.Errorf("%s: more capacity than length", name)
	}
}

// wantOf fails unless a trie is told to be that of a list.
func wantOf(t *testing.T, name string, x tries.Trie, want [][]int) {
	t.Helper()
	got, e := tries.Words(x)
	wantList(t, "Words of "+name, got, e, want)
	if count, e := tries.Count(x); count != len(lists.Reduced(want)) || e != api.OK {
		t.Errorf("Count of %s: %d, error %d", name, count, e)
	}
}

// wantNoTrie fails unless a trie is told not to be valid.
func wantNoTrie(t *testing.T, name string, x tries.Trie) {
	t.Helper()
	if l, e := tries.Words(x); e != api.ErrForm || len(l) != 0 {
		t.Errorf("Words of %s: error %d, %s", name, e, lists.Brief(l))
	}
	if count, e := tries.Count(x); e != api.ErrForm || count != 0 {
		t.Errorf("Count of %s: error %d, %d", name, e, count)
	}
}

// P12.8
func TestOf(t *testing.T) {
	const no = api.None
	for _, x := range []struct {
		l      string
		inputs int
		want   tries.Trie
	}{
		{"0, 1 0", 2, trie(2, inner(1, 2), end(no, no), inner(3, no), end(no, no))},
		{"", 2, trie(2)},
		{"", 16, trie(16)},
		{"-", 1, trie(1, end(no))},
		{"-", 3, trie(3, end(no, no, no))},
		{"0", 1, trie(1, inner(1), end(no))},
		{"1", 2, trie(2, inner(no, 1), end(no, no))},
		{"-, 0, 1", 2, trie(2, end(1, 2), end(no, no), end(no, no))},
		{"0 0 0", 1, trie(1, inner(1), inner(2), inner(3), end(no))},
		{"0, 0 0 0", 1, trie(1, inner(1), end(2), inner(3), end(no))},
		{"1, 0 1", 2, trie(2, inner(1, 2), inner(no, 3), end(no, no), end(no, no))},
		{"-, 1, 0 0, 0 1, 1 1 0", 2, trie(2, end(1, 2), inner(3, 4), end(no, 5), end(no, no), end(no, no), inner(6, no), end(no, no))},
		{"1 0, 0 1 1", 2, trie(2, inner(1, 2), inner(no, 3), inner(4, no), inner(no, 5), end(no, no), end(no, no))},
	} {
		got, e := tries.Of(lists.Of(x.l), x.inputs)
		wantTrie(t, "Of "+x.l, got, e, x.want)
		wantOf(t, "Of "+x.l, x.want, lists.Of(x.l))
	}
	for _, x := range lists.Refused() {
		if got, e := tries.Of(x.L, x.Inputs); e != x.Want || got.Inputs != 0 || len(got.Nodes) != 0 {
			t.Errorf("%s: error %d, %s; want error %d", x.Name, e, brief(code(got)), x.Want)
		}
	}
}

// P12.8
func TestTriesByTheDefinition(t *testing.T) {
	hold := func(l [][]int, inputs int) {
		want := trieOf(l, inputs)
		got, e := tries.Of(l, inputs)
		wantTrie(t, "Of "+lists.Text(l), got, e, want)
		wantOf(t, "the trie of "+lists.Text(l), want, l)
	}
	for _, f := range families() {
		for _, l := range f.lists {
			hold(l, f.inputs)
		}
	}
	for _, x := range largerLists() {
		hold(x.l, x.inputs)
		hold(x.l, api.MaxInputs)
	}
}

// P12.8
func TestTriesUpToTheLimits(t *testing.T) {
	for _, x := range []struct {
		name   string
		inputs int
		l      [][]int
	}{
		{"the longest word", 1, [][]int{lists.Repeat(0, 256)}},
		{"all words of one input", 1, zeros(256)},
		{"as many words as there may be", 2, lists.First(4096, 2, 12)},
		{"as many words as there may be, of 16 inputs", 16, lists.First(4096, 16, 3)},
		{"as many symbols as there may be", 16, lists.First(256, 16, 256)},
		{"as many symbols as there may be, and the empty word", 16, slices.Concat(lists.Of("-"), lists.First(256, 16, 256))},
		{"as many words and symbols as there may be", 2, lists.First(4096, 2, 16)},
	} {
		want := trieOf(x.l, x.inputs)
		got, e := tries.Of(x.l, x.inputs)
		wantTrie(t, x.name, got, e, want)
		wantOf(t, x.name, want, x.l)
	}
	for _, x := range []struct {
		name   string
		inputs int
		l      [][]int
	}{
		{"a word too long", 1, [][]int{lists.Repeat(0, 257)}},
		{"a word too long beside another one", 2, [][]int{{1}, lists.Repeat(0, 257)}},
		{"a word too many", 16, lists.First(4097, 16, 4)},
		{"a word too many, the empty one", 16, slices.Concat(lists.Of("-"), lists.First(4096, 16, 3))},
		{"a symbol too many together", 16, slices.Concat(lists.Of("0"), lists.First(256, 16, 256))},
		{"far too many symbols together", 2, lists.First(4096, 2, 20)},
		{"too many inputs", 17, lists.Of("-, 0")},
		{"far too many inputs", 300, lists.Of("-, 0")},
	} {
		wantNoTrie(t, x.name, trieOf(x.l, x.inputs))
	}
	if got, e := tries.Of(wide(), 16); e != api.OK || len(got.Nodes) != 1+16+256*255 {
		t.Errorf("error %d, %d nodes", e, len(got.Nodes))
	} else {
		wantOf(t, "the words with the most prefixes", got, wide())
	}
}

// Where there are no nodes, nothing else tells that a number of inputs is wrong.
// P12.8
func TestTriesWithoutNodes(t *testing.T) {
	for inputs := 1; inputs <= api.MaxInputs; inputs++ {
		got, e := tries.Of(nil, inputs)
		wantTrie(t, "Of no words", got, e, trie(inputs))
		wantOf(t, "no nodes", trie(inputs), nil)
		wantOf(t, "no nodes in an empty slice", tries.Trie{Inputs: inputs, Nodes: []tries.Node{}}, nil)
	}
	for _, inputs := range []int{0, -1, 17, 18, math.MinInt, math.MaxInt} {
		wantNoTrie(t, "no nodes with a wrong number of inputs", trie(inputs))
	}
}

// P12.8
func TestTriesAreRefused(t *testing.T) {
	const no = api.None
	shared := tries.Trie{Inputs: 2}
	for n := range 64 {
		shared.Nodes = append(shared.Nodes, inner(n+1, n+1))
	}
	shared.Nodes = append(shared.Nodes, end(no, no))
	for _, x := range []struct {
		name string
		x    tries.Trie
	}{
		{"zero", tries.Trie{}},
		{"a zero node", trie(1, tries.Node{})},
		{"no inputs", trie(0, end())},
		{"no inputs, but next ones", trie(0, inner(1), end(no))},
		{"negative inputs", trie(-1, end())},
		{"extreme inputs", trie(math.MaxInt, end(no))},
		{"17 inputs", trie(17, end(lists.Repeat(no, 17)...))},
		{"a leaf that is no end", trie(2, inner(no, no))},
		{"leaves of which one is no end", trie(2, inner(1, 2), end(no, no), inner(no, no))},
		{"a leaf behind an end that is none", trie(1, end(1), inner(no))},
		{"too few next ones", trie(2, end(no))},
		{"too few next ones of the last node", trie(2, inner(1, no), end(no))},
		{"no next ones", trie(1, end())},
		{"too many next ones", trie(1, end(no, no))},
		{"too many next ones, the one too many leads somewhere", trie(1, inner(no, 1), end(no, no))},
		{"a node that leads to itself", trie(1, end(0))},
		{"nodes that lead to each other", trie(1, inner(1), end(0))},
		{"nodes that nothing else leads to", trie(1, end(no), end(2), end(1))},
		{"a later node that leads to itself", trie(1, end(no), end(1))},
		{"a later node that leads to a next one", trie(1, end(no), end(2), end(no))},
		{"a node that nothing leads to", trie(2, inner(1, no), end(no, no), end(no, no))},
		{"a node that two lead to", trie(2, inner(1, 2), inner(3, no), inner(3, no), end(no, no))},
		{"a node to which two symbols lead", trie(2, inner(1, 1), end(no, no))},
		{"nodes to which very many words lead", shared},
		{"next ones in the wrong order", trie(2, inner(2, 1), end(no, no), end(no, no))},
		{"nodes by their depth first", trie(2, inner(1, 3), inner(2, no), end(no, no), end(no, no))},
		{"levels in the wrong order", trie(2, inner(1, 2), inner(4, no), inner(3, no), end(no, no), end(no, no))},
		{"a number left out", trie(2, inner(1, 3), end(no, no), end(no, no), end(no, no))},
		{"a number without a node", trie(2, inner(1, 2), end(no, no))},
		{"far more than nodes", trie(1, end(1000000))},
		{"not None", trie(2, inner(1, -2), end(no, no))},
		{"extreme numbers", trie(2, end(math.MinInt, math.MaxInt))},
		{"extreme numbers behind others", trie(2, inner(1, 2), end(no, no), end(no, math.MaxInt))},
		{"257 symbols", chain(258)},
		{"65536 symbols", chain(65537)},
		{"very many symbols", chain(300000)},
		{"65536 words", bush(4)},
		{"very many words", bush(5)},
	} {
		wantNoTrie(t, x.name, x.x)
	}
	wantOf(t, "256 symbols", chain(257), [][]int{lists.Repeat(0, 256)})
	wantOf(t, "4096 words", bush(3), lists.First(4096, 16, 3))
}

// P12.8
func TestAllSmallTriesByTheDefinition(t *testing.T) {
	for _, x := range []struct{ inputs, nodes, most int }{{1, 0, 0}, {1, 1, 0}, {1, 2, 1}, {1, 3, 2}, {1, 4, 3}, {2, 0, 0}, {2, 1, 0}, {2, 2, 1}, {2, 3, 2}, {3, 2, 1}} {
		// Words to so many nodes have at most so many symbols.
		valid := map[string][][]int{}
		for _, l := range of(x.inputs, x.most).lists {
			valid[code(trieOf(l, x.inputs))] = l
		}
		count := 0
		every(x.inputs, x.nodes, func(small tries.Trie) {
			if l, is := valid[code(small)]; is {
				count++
				wantOf(t, code(small), small, l)
			} else {
				wantNoTrie(t, code(small), small)
			}
		})
		if count == 0 {
			t.Errorf("none of %v is valid", x)
		}
	}
}

// every calls a function for all tries with so many nodes whose numbers of next ones are from -2 to that of the nodes, valid or not.
func every(inputs, nodes int, call func(x tries.Trie)) {
	x := tries.Trie{Inputs: inputs}
	for range nodes {
		x.Nodes = append(x.Nodes, tries.Node{Next: make([]int, inputs)})
	}
	var fill func(at int)
	fill = func(at int) {
		if at == nodes*inputs {
			call(x)
			return
		}
		for next := -2; next <= nodes; next++ {
			x.Nodes[at/inputs].Next[at%inputs] = next
			fill(at + 1)
		}
	}
	for ends := range 1 << nodes {
		for n := range x.Nodes {
			x.Nodes[n].End = ends>>n&1 == 1
		}
		fill(0)
	}
}

// P12.8
func TestChangedTries(t *testing.T) {
	for _, x := range largerLists()[:20] {
		whole := trieOf(x.l, x.inputs)
		for _, inputs := range []int{0, -1, x.inputs - 1, x.inputs + 1, math.MaxInt} {
			wantNoTrie(t, "other inputs", trie(inputs, whole.Nodes...))
		}
		wantNoTrie(t, "a node more", trie(x.inputs, append(slices.Clone(whole.Nodes), end(lists.Repeat(api.None, x.inputs)...))...))
		wantNoTrie(t, "a node less", trie(x.inputs, whole.Nodes[:len(whole.Nodes)-1]...))
		prefixes := lists.Prefixes(x.l)
		for n, node := range whole.Nodes {
			other := copiedTrie(whole)
			other.Nodes[n].End = !node.End
			if slices.Max(node.Next) == api.None {
				wantNoTrie(t, "a leaf that is no end", other)
			} else if node.End {
				wantOf(t, "an end less", other, slices.DeleteFunc(slices.Clone(x.l), func(w []int) bool { return slices.Equal(w, prefixes[n]) }))
			} else {
				wantOf(t, "an end more", other, lists.Sorted(append(slices.Clone(x.l), prefixes[n])))
			}
			other = copiedTrie(whole)
			i := n % x.inputs
			for _, next := range []int{-2, -1, 0, n, n + 1, node.Next[i] - 1, node.Next[i] + 1, len(whole.Nodes)} {
				other.Nodes[n].Next[i] = next
				if next != node.Next[i] {
					wantNoTrie(t, "another next one", other)
				}
			}
		}
	}
}

// wantSame fails unless two ways lead to the same list.
func wantSame(t *testing.T, name string, a [][]int, e api.Errno, b [][]int, f api.Errno) {
	t.Helper()
	if e != api.OK || f != api.OK || !lists.Same(a, b) {
		t.Errorf("%s: error %d, %s; but error %d, %s", name, e, lists.Brief(a), f, lists.Brief(b))
	}
}

// P12.9
func TestConsequencesForOneList(t *testing.T) {
	hold := func(l [][]int, inputs int) {
		x, e := tries.Of(l, inputs)
		back, f := tries.Words(x)
		wantSame(t, "Words inverts Of", back, f, l, e)
		again, e := tries.Of(back, inputs)
		wantTrie(t, "Of inverts Words", again, e, x)
		once, e := tries.Reduce(l, inputs)
		twice, f := tries.Reduce(once, inputs)
		wantSame(t, "reduced twice", twice, f, once, e)
		if count, f := tries.Count(x); count != len(once) || f != api.OK {
			t.Errorf("Count is %d, error %d; there are %d reduced words", count, f, len(once))
		}
		before, e := tries.Prefixes(once, inputs)
		prefixes, f := tries.Prefixes(l, inputs)
		wantSame(t, "prefixes of the reduced list", before, e, prefixes, f)
		reducedPrefixes, e := tries.Reduce(prefixes, inputs)
		wantSame(t, "the reduced list of the prefixes", reducedPrefixes, e, once, api.OK)
		more, e := tries.Concat(lists.Of("-"), l, inputs)
		wantSame(t, "the empty word in front", more, e, l, api.OK)
		more, e = tries.Concat(l, lists.Of("-"), inputs)
		wantSame(t, "the empty word behind", more, e, l, api.OK)
	}
	for _, f := range families() {
		for _, l := range f.lists {
			hold(l, f.inputs)
		}
	}
	for _, x := range largerLists() {
		hold(x.l, x.inputs)
	}
	hold(lists.First(3840, 16, 3), 16)
	hold([][]int{lists.Repeat(1, 255), lists.Repeat(0, 256)}, 2)
}

// P12.9
func TestConsequencesForSeveralLists(t *testing.T) {
	hold := func(a, b, c [][]int, inputs int) {
		ab, e := tries.Concat(a, b, inputs)
		left, f := tries.Concat(ab, c, inputs)
		bc, g := tries.Concat(b, c, inputs)
		right, h := tries.Concat(a, bc, inputs)
		wantSame(t, "Concat is associative", left, max(e, f), right, max(g, h))
		both, e := tries.Union(a, b, inputs)
		left, f = tries.Concat(both, c, inputs)
		ac, _ := tries.Concat(a, c, inputs)
		right, h = tries.Union(ac, bc, inputs)
		wantSame(t, "Union, and then Concat", left, max(e, f), right, h)
		left, f = tries.Concat(c, both, inputs)
		ca, _ := tries.Concat(c, a, inputs)
		cb, _ := tries.Concat(c, b, inputs)
		right, h = tries.Union(ca, cb, inputs)
		wantSame(t, "Concat with Union behind", left, max(e, f), right, h)
	}
	for _, f := range []family{of(1, 3), of(3, 1)} {
		for _, a := range f.lists {
			for _, b := range f.lists {
				for _, c := range f.lists {
					hold(a, b, c, f.inputs)
				}
			}
		}
	}
	l := of(2, 2).lists
	for n := range 4000 {
		hold(l[n%128], l[n*37%128], l[n*n%127], 2)
	}
	for seed := range 60 {
		inputs := 1 + seed%16
		hold(lists.Scattered(inputs, 4+seed%5, 6, seed), lists.Scattered(inputs, 6, 9, seed+100), lists.Scattered(inputs, 8, 5, seed+200), inputs)
	}
}

// P12.9
func TestConsequencesForAllWords(t *testing.T) {
	most := [...]int{1: 256, 2: 11, 3: 7, 4: 5, 5: 5, 8: 3, 15: 3, 16: 2}
	for inputs, length := range most {
		for k := range length {
			less, e := tries.Upto(inputs, k)
			exact, f := tries.Exact(inputs, k+1)
			both, g := tries.Union(less, exact, inputs)
			more, h := tries.Upto(inputs, k+1)
			wantSame(t, "Upto "+words.Text([]int{inputs, k + 1}), more, h, both, max(e, f, g))
			prefixes, e := tries.Prefixes(exact, inputs)
			if e == api.OK {
				wantSame(t, "prefixes of Exact "+words.Text([]int{inputs, k + 1}), prefixes, e, more, h)
			}
		}
	}
}

// Rules R1 and R4: arguments stay as they are, and results share memory neither with them nor with each other.
func TestListsAreNeitherChangedNorShared(t *testing.T) {
	const textA, textB, textC = "-, 0, 1, 0 1, 1 1 0", "0, 1 0, 1 1", "1 1, 0, 1 1, -, 1, 1 1, 0"
	a, b, c := lists.Spare(textA), lists.Spare(textB), lists.Spare(textC)
	x, _ := tries.Of(a, 2)
	before := copiedTrie(x)
	for _, call := range []struct {
		name string
		make func() ([][]int, api.Errno)
	}{
		{"Sort", func() ([][]int, api.Errno) { return tries.Sort(c, 2) }},
		{"Sort, in order", func() ([][]int, api.Errno) { return tries.Sort(a, 2) }},
		{"Reduce", func() ([][]int, api.Errno) { return tries.Reduce(a, 2) }},
		{"Reduce, reduced", func() ([][]int, api.Errno) { return tries.Reduce(b, 2) }},
		{"Prefixes", func() ([][]int, api.Errno) { return tries.Prefixes(b, 2) }},
		{"Union", func() ([][]int, api.Errno) { return tries.Union(a, b, 2) }},
		{"Union with nothing", func() ([][]int, api.Errno) { return tries.Union(a, nil, 2) }},
		{"Minus", func() ([][]int, api.Errno) { return tries.Minus(a, b, 2) }},
		{"Minus nothing", func() ([][]int, api.Errno) { return tries.Minus(b, nil, 2) }},
		{"Concat", func() ([][]int, api.Errno) { return tries.Concat(a, b, 2) }},
		{"Concat with the empty word", func() ([][]int, api.Errno) { return tries.Concat(b, [][]int{nil}, 2) }},
		{"Concat with the empty word in front", func() ([][]int, api.Errno) { return tries.Concat([][]int{nil}, b, 2) }},
		{"Upto", func() ([][]int, api.Errno) { return tries.Upto(2, 3) }},
		{"Exact", func() ([][]int, api.Errno) { return tries.Exact(2, 3) }},
		{"Words", func() ([][]int, api.Errno) { return tries.Words(x) }},
	} {
		got, e := call.make()
		want := lists.Copy(got)
		if e != api.OK || len(got) < 2 {
			t.Fatalf("%s: error %d, %s", call.name, e, lists.Text(got))
		}
		// What is written into a word changes no other one, no argument, and no later result.
		if !lists.Separate(got) {
			t.Errorf("%s: words share their memory: %s", call.name, lists.Text(got))
		}
		got[0] = nil
		got, e = call.make()
		wantList(t, call.name+" again", got, e, want)
		if !lists.IsSpare(a, textA) || !lists.IsSpare(b, textB) || !lists.IsSpare(c, textC) || !sameTrie(x, before) {
			t.Fatalf("%s: changed: %s; %s; %s; %s", call.name, lists.Text(a), lists.Text(b), lists.Text(c), code(x))
		}
	}
}

// Rules R1 and R4: the same for what is no list of words.
func TestTriesAreNeitherChangedNorShared(t *testing.T) {
	const text = "0, 1, 0 1, 1 1 0"
	l := lists.Spare(text)
	want := trieOf(l, 2)
	got, e := tries.Of(l, 2)
	for n := range got.Nodes {
		for i := range got.Nodes[n].Next {
			got.Nodes[n].Next[i] = 50 + n
		}
	}
	for n, x := range got.Nodes {
		if e != api.OK || !slices.Equal(x.Next, lists.Repeat(50+n, 2)) {
			t.Errorf("nodes share their memory: error %d, %s", e, code(got))
		}
	}
	got, e = tries.Of(l, 2)
	wantTrie(t, "Of again", got, e, want)
	if count, e := tries.Count(got); count != 2 || e != api.OK || !sameTrie(got, want) {
		t.Errorf("Count: %d, error %d, %s", count, e, code(got))
	}
	w := append(make([]int, 0, 20), 1, 1, 0)
	for range 2 {
		has, e := tries.Has(l, w, 2)
		steps, f := tries.Steps(l, 2)
		if g := tries.Check(l, 2); !has || e != api.OK || steps != 7 || f != api.OK || g != api.OK {
			t.Errorf("Has: %v, error %d; Steps: %d, error %d; Check: error %d", has, e, steps, f, g)
		}
	}
	if !lists.IsSpare(l, text) || !slices.Equal(w[:20], append([]int{1, 1}, lists.Repeat(0, 18)...)) {
		t.Errorf("changed: %s; %v", lists.Text(l), w[:20])
	}
}
