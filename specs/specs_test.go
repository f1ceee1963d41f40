package specs

import (
	"math"
	"slices"
	"strconv"
	"strings"
	"testing"

	"gauntlet/api"
	"gauntlet/words"
)

// none is the undefined edge.
var none = api.Edge{To: api.None, Out: api.None}

// lamp returns the specification of the chapter's examples.
func lamp() Spec {
	return Spec{
		Name: "lamp",
		M: api.Machine{Inputs: 2, Outputs: 2, Rows: [][]api.Edge{
			{{To: 1, Out: 0}, {To: 0, Out: 1}},
			{{To: 0, Out: 1}, none},
		}},
		Ins:    []string{"press", "tick"},
		Outs:   []string{"on", "off"},
		States: []string{"dark", "lit"},
	}
}

// lampText is the text of the lamp.
const lampText = `machine lamp;
inputs press, tick;
outputs on, off;
states dark, lit;
dark press / on -> lit;
dark tick / off -> dark;
lit press / off -> dark;
end;
`

// least returns a specification with one input, one output, one state, and an edge.
func least() Spec {
	return Spec{
		Name: "m",
		M:    api.Machine{Inputs: 1, Outputs: 1, Rows: [][]api.Edge{{{}}}},
		Ins:  []string{"a"}, Outs: []string{"x"}, States: []string{"s"},
	}
}

// leastText is the text of the least specification.
const leastText = "machine m;\ninputs a;\noutputs x;\nstates s;\ns a / x -> s;\nend;\n"

// largest returns a specification with as many states, inputs and outputs as there may be, whose names begin with a letter and have so many bytes: the input i leads from s to s + i + 1, with the output i.
func largest(size int) Spec {
	x := Spec{Name: "largest", M: api.Machine{Inputs: 16, Outputs: 16}, Ins: names("i", size, 16), Outs: names("o", size, 16), States: names("s", size, 64)}
	for s := range 64 {
		row := make([]api.Edge, 16)
		for i := range row {
			row[i] = api.Edge{To: (s + i + 1) % 64, Out: i}
		}
		x.M.Rows = append(x.M.Rows, row)
	}
	return x
}

// names returns so many names of so many bytes.
func names(letter string, size, count int) []string {
	l := make([]string, count)
	for n := range l {
		digits := strconv.Itoa(n)
		l[n] = letter + strings.Repeat("0", size-len(letter)-len(digits)) + digits
	}
	return l
}

// changed returns the lamp after a change.
func changed(change func(x *Spec)) Spec {
	x := lamp()
	change(&x)
	return x
}

// clone returns the same specification in other memory.
func clone(x Spec) Spec {
	rows := slices.Clone(x.M.Rows)
	for s, row := range rows {
		rows[s] = slices.Clone(row)
	}
	return Spec{x.Name, api.Machine{Inputs: x.M.Inputs, Outputs: x.M.Outputs, Rows: rows}, slices.Clone(x.Ins), slices.Clone(x.Outs), slices.Clone(x.States)}
}

// equal reports whether specifications have the same names, numbers and rows, valid or not.
func equal(a, b Spec) bool {
	return a.Name == b.Name && slices.Equal(a.Ins, b.Ins) && slices.Equal(a.Outs, b.Outs) && slices.Equal(a.States, b.States) &&
		a.M.Inputs == b.M.Inputs && a.M.Outputs == b.M.Outputs && slices.EqualFunc(a.M.Rows, b.M.Rows, slices.Equal)
}

// full reports whether all slices of a specification have the capacity that they need, and no more.
func full(x Spec) bool {
	l := cap(x.Ins) == len(x.Ins) && cap(x.Outs) == len(x.Outs) && cap(x.States) == len(x.States) && cap(x.M.Rows) == len(x.M.Rows)
	for _, row := range x.M.Rows {
		l = l && cap(row) == len(row)
	}
	return l
}

// small returns the lamps with all machines with two states, two inputs and two outputs.
func small() []Spec {
	edges := []api.Edge{none, {To: 0, Out: 0}, {To: 0, Out: 1}, {To: 1, Out: 0}, {To: 1, Out: 1}}
	var all []Spec
	for n := range 5 * 5 * 5 * 5 {
		x := lamp()
		x.M.Rows = [][]api.Edge{{edges[n%5], edges[n/5%5]}, {edges[n/25%5], edges[n/125]}}
		all = append(all, x)
	}
	return all
}

// refused is a specification that is not valid, with its error.
type refused struct {
	name string
	x    Spec
	want api.Errno
}

// badNames are texts that are no names.
var badNames = []string{"", "1", "12", "_", "_a", "1a", "-", "a-b", "a b", " a", "a ", "a\n", "a#", "a;", "\u00e9", "a\u00e9", "abcdefghijklmnopq", strings.Repeat("a", 70000)}

// invalid returns specifications that are not valid.
func invalid() []refused {
	l := []refused{
		{"zero", Spec{}, api.ErrArg},
		{"no rows", changed(func(x *Spec) { x.M.Rows = nil }), api.ErrArg},
		{"an edge to no state", changed(func(x *Spec) { x.M.Rows[1][1] = api.Edge{To: 2, Out: 0} }), api.ErrArg},
		{"extreme inputs", changed(func(x *Spec) { x.M.Inputs = math.MinInt }), api.ErrArg},
		{"too many inputs", changed(func(x *Spec) { x.M.Inputs = 17 }), api.ErrLimit},
		{"most outputs", changed(func(x *Spec) { x.M.Outputs = math.MaxInt }), api.ErrLimit},
		{"too many rows", changed(func(x *Spec) { x.M.Rows = make([][]api.Edge, 65) }), api.ErrLimit},
		{"a limit before names", changed(func(x *Spec) { x.M.Inputs = 17; x.Ins = nil; x.Name = "" }), api.ErrLimit},
		{"no machine before names", changed(func(x *Spec) { x.M.Rows[0] = nil; x.Ins = nil; x.Name = "" }), api.ErrArg},

		{"no inputs", changed(func(x *Spec) { x.Ins = nil }), api.ErrCount},
		{"no outputs", changed(func(x *Spec) { x.Outs = []string{} }), api.ErrCount},
		{"no states", changed(func(x *Spec) { x.States = nil }), api.ErrCount},
		{"too few inputs", changed(func(x *Spec) { x.Ins = x.Ins[:1] }), api.ErrCount},
		{"too few outputs", changed(func(x *Spec) { x.Outs = x.Outs[:1] }), api.ErrCount},
		{"too few states", changed(func(x *Spec) { x.States = x.States[:1] }), api.ErrCount},
		{"one input too many", changed(func(x *Spec) { x.Ins = append(x.Ins, "a") }), api.ErrCount},
		{"one output too many", changed(func(x *Spec) { x.Outs = append(x.Outs, "a") }), api.ErrCount},
		{"one state too many", changed(func(x *Spec) { x.States = append(x.States, "a") }), api.ErrCount},
		{"far too many states", changed(func(x *Spec) { x.States = make([]string, 70000) }), api.ErrCount},
		{"as many names, but of others", changed(func(x *Spec) { x.Ins = x.Ins[:1]; x.Outs = append(x.Outs, "a") }), api.ErrCount},
		{"a number before the name", changed(func(x *Spec) { x.States = x.States[:1]; x.Name = "" }), api.ErrCount},
		{"a number before a name", changed(func(x *Spec) { x.States = x.States[:1]; x.Ins[0] = "1" }), api.ErrCount},
		{"a number before equal names", changed(func(x *Spec) { x.States = x.States[:1]; x.Ins[0] = "tick" }), api.ErrCount},

		{"a name before equal names", changed(func(x *Spec) { x.Ins[0] = "tick"; x.States[1] = "1" }), api.ErrName},
		{"a reserved word before equal names", changed(func(x *Spec) { x.Ins[0] = "tick"; x.States[1] = "end" }), api.ErrName},
		{"equal names that are none", changed(func(x *Spec) { x.Outs[0] = "1"; x.Outs[1] = "1" }), api.ErrName},
		{"equal names that are reserved", changed(func(x *Spec) { x.Outs[0] = "inputs"; x.Outs[1] = "inputs" }), api.ErrName},

		{"equal inputs", changed(func(x *Spec) { x.Ins[1] = "press" }), api.ErrThere},
		{"equal outputs", changed(func(x *Spec) { x.Outs[0] = "off" }), api.ErrThere},
		{"equal states", changed(func(x *Spec) { x.States[1] = "dark" }), api.ErrThere},
		{"equal first and last states", changed(func(x *Spec) { *x = largest(3); x.States[63] = x.States[0] }), api.ErrThere},
		{"equal last inputs", changed(func(x *Spec) { *x = largest(3); x.Ins[15] = x.Ins[14] }), api.ErrThere},
	}
	for _, s := range append([]string{"machine", "inputs", "outputs", "states", "end"}, badNames...) {
		l = append(l,
			refused{"the name " + strconv.Quote(s), changed(func(x *Spec) { x.Name = s }), api.ErrName},
			refused{"the first input " + strconv.Quote(s), changed(func(x *Spec) { x.Ins[0] = s }), api.ErrName},
			refused{"the last input " + strconv.Quote(s), changed(func(x *Spec) { x.Ins[1] = s }), api.ErrName},
			refused{"the first output " + strconv.Quote(s), changed(func(x *Spec) { x.Outs[0] = s }), api.ErrName},
			refused{"the last output " + strconv.Quote(s), changed(func(x *Spec) { x.Outs[1] = s }), api.ErrName},
			refused{"the first state " + strconv.Quote(s), changed(func(x *Spec) { x.States[0] = s }), api.ErrName},
			refused{"the last state " + strconv.Quote(s), changed(func(x *Spec) { x.States[1] = s }), api.ErrName},
		)
	}
	return l
}

// valid returns specifications that are valid, no two of them equal.
func valid() []Spec {
	all := []Spec{
		least(), largest(3), largest(16),
		changed(func(x *Spec) { x.Name = "Lamp" }),
		changed(func(x *Spec) { x.Name = "press" }),
		changed(func(x *Spec) { x.Name = "End" }),
		changed(func(x *Spec) { x.Ins[0] = "abcdefghijklmnop" }),
		changed(func(x *Spec) { x.Ins[0], x.Ins[1] = x.Ins[1], x.Ins[0] }),
		changed(func(x *Spec) { x.Ins[0] = "Tick" }),
		changed(func(x *Spec) { x.Outs[1] = "press" }),
		changed(func(x *Spec) { x.Outs[1] = "on_" }),
		changed(func(x *Spec) { x.States[1] = "press" }),
		changed(func(x *Spec) { x.States[1] = "on" }),
		changed(func(x *Spec) { x.Name = "a"; x.Ins[0] = "a"; x.Outs[0] = "a"; x.States[0] = "a" }),
		changed(func(x *Spec) { x.States[0] = "end1"; x.States[1] = "state" }),
		changed(func(x *Spec) { x.M.Outputs = 3; x.Outs = append(x.Outs, "never") }),
		changed(func(x *Spec) { x.M.Rows = append(x.M.Rows, []api.Edge{none, none}); x.States = append(x.States, "s") }),
		changed(func(x *Spec) {
			x.M.Rows = append(x.M.Rows, []api.Edge{none, {To: 2}})
			x.States = append(x.States, "s")
		}),
		{"m", api.Machine{Inputs: 1, Outputs: 1, Rows: [][]api.Edge{{none}}}, []string{"a"}, []string{"x"}, []string{"s"}},
		{"m", api.Machine{Inputs: 1, Outputs: 1, Rows: [][]api.Edge{{{}}}}, []string{"a"}, []string{"x"}, []string{"t"}},
		{"m", api.Machine{Inputs: 1, Outputs: 2, Rows: [][]api.Edge{{{}}}}, []string{"a"}, []string{"x", "y"}, []string{"s"}},
		{"m", api.Machine{Inputs: 1, Outputs: 1, Rows: [][]api.Edge{{{}}, {{}}}}, []string{"a"}, []string{"x"}, []string{"s", "t"}},
		{"m", api.Machine{Inputs: 2, Outputs: 1, Rows: [][]api.Edge{{{}, {}}}}, []string{"a", "b"}, []string{"x"}, []string{"s"}},
	}
	return append(all, small()...)
}

// P5.1
func TestCheck(t *testing.T) {
	for _, x := range valid() {
		if e := Check(x); e != api.OK {
			t.Errorf("Check(%v) = %d", x, e)
		}
	}
	for _, r := range invalid() {
		if e := Check(r.x); e != r.want {
			t.Errorf("%s: error %d; want %d", r.name, e, r.want)
		}
	}
}

// P5.1
func TestSame(t *testing.T) {
	all := valid()
	for i, a := range all {
		for k, b := range all {
			if Same(a, b) != (i == k) {
				t.Errorf("Same(%v, %v) = %v", a, b, i != k)
			}
		}
		if !Same(a, clone(a)) {
			t.Errorf("not the same in other memory: %v", a)
		}
	}
	for _, r := range invalid() {
		if Same(r.x, r.x) || Same(r.x, clone(r.x)) || Same(r.x, lamp()) || Same(lamp(), r.x) {
			t.Errorf("%s: Same is true", r.name)
		}
	}
}

// P5.2
func TestText(t *testing.T) {
	for _, x := range []struct {
		x    Spec
		want string
	}{
		{lamp(), lampText},
		{least(), leastText},
		{changed(func(x *Spec) { x.M.Rows = [][]api.Edge{{none, none}, {none, none}} }), "machine lamp;\ninputs press, tick;\noutputs on, off;\nstates dark, lit;\nend;\n"},
		{changed(func(x *Spec) { x.M.Rows = [][]api.Edge{{none, {To: 1, Out: 1}}, {{To: 0, Out: 0}, {To: 1, Out: 0}}} }),
			"machine lamp;\ninputs press, tick;\noutputs on, off;\nstates dark, lit;\ndark tick / off -> lit;\nlit press / on -> dark;\nlit tick / on -> lit;\nend;\n"},
		{changed(func(x *Spec) {
			x.M = api.Machine{Inputs: 3, Outputs: 1, Rows: [][]api.Edge{{none, none, {}}}}
			x.Name, x.Ins, x.Outs, x.States = "a", []string{"c", "b", "a"}, []string{"a"}, []string{"a"}
		}), "machine a;\ninputs c, b, a;\noutputs a;\nstates a;\na a / a -> a;\nend;\n"},
	} {
		if got, e := Text(x.x); got != x.want || e != api.OK {
			t.Errorf("Text(%v) = %q, %d; want %q", x.x, got, e, x.want)
		}
	}
	for _, r := range invalid() {
		if got, e := Text(r.x); got != "" || e != r.want {
			t.Errorf("%s: %.99q, error %d; want %d", r.name, got, e, r.want)
		}
	}
}

// atTheLimit returns a specification whose text has 65525 bytes and those of its name. Each of its edges takes 74 bytes.
func atTheLimit(name string) Spec {
	x := largest(16)
	for n := range 64 * 16 {
		x.M.Rows[n/16][n%16] = none
		if n < 862 {
			x.M.Rows[n/16][n%16] = api.Edge{}
		}
	}
	x.Name, x.Outs[1], x.Outs[2] = name, "o1", "o2"
	return x
}

// P5.2
func TestTextAtTheLimit(t *testing.T) {
	x := atTheLimit("elevenbytes")
	got, e := Text(x)
	if len(got) != 65536 || e != api.OK {
		t.Errorf("%d bytes, error %d; want 65536 bytes", len(got), e)
	}
	if y, line, column, e := Parse(got); !equal(y, x) || line != 0 || column != 0 || e != api.OK {
		t.Errorf("not read: %d, %d, error %d", line, column, e)
	}
	if got, e := Text(atTheLimit("elevenbytes1")); got != "" || e != api.ErrLimit {
		t.Errorf("a byte more: %d bytes, error %d; want ErrLimit", len(got), e)
	}
	if got, e := Text(largest(16)); got != "" || e != api.ErrLimit {
		t.Errorf("largest: %d bytes, error %d; want ErrLimit", len(got), e)
	}
	if got, e := Text(largest(3)); len(got) == 0 || e != api.OK {
		t.Errorf("largest with short names: %d bytes, error %d", len(got), e)
	}
}

// A text may be read though the text that would be written is too long.
// P5.2, P5.3
func TestShortTextOfALargeSpecification(t *testing.T) {
	x := atTheLimit("elevenbytes1")
	text, _ := Text(atTheLimit("elevenbytes"))
	text = strings.Replace(text, "machine elevenbytes;", "machine elevenbytes1;", 1)
	text = strings.ReplaceAll(text, " / ", "/")
	if y, line, column, e := Parse(text); !equal(y, x) || line != 0 || column != 0 || e != api.OK {
		t.Errorf("not read: %d, %d, error %d", line, column, e)
	}
}

// P5.4
func TestWordAndWordText(t *testing.T) {
	for _, x := range []struct {
		x    Spec
		w    []int
		text string
	}{
		{lamp(), nil, "-"},
		{lamp(), []int{0}, "press"},
		{lamp(), []int{1, 0}, "tick press"},
		{lamp(), []int{1, 1, 1, 0}, "tick tick tick press"},
		{lamp(), slices.Repeat([]int{0, 1}, 128), strings.Repeat("press tick ", 127) + "press tick"},
		{least(), []int{0, 0}, "a a"},
		{largest(16), slices.Repeat([]int{15}, 256), strings.Repeat("i000000000000015 ", 255) + "i000000000000015"},
		{changed(func(x *Spec) { x.Ins[0] = "off"; x.Outs[1] = "press" }), []int{1, 0}, "tick off"},
	} {
		if got, e := WordText(x.x, x.w); got != x.text || e != api.OK {
			t.Errorf("WordText(%v) = %q, %d; want %q", x.w, got, e, x.text)
		}
		got, e := Word(x.x, x.text)
		if !slices.Equal(got, x.w) || e != api.OK || cap(got) != len(got) {
			t.Errorf("Word(%q) = %v, %d, capacity %d; want %v", x.text, got, e, cap(got), x.w)
		}
	}
	if got, e := WordText(lamp(), []int{}); got != "-" || e != api.OK {
		t.Errorf("empty word: %q, %d", got, e)
	}
}

// P5.4
func TestWordRefuses(t *testing.T) {
	long := strings.Repeat("press ", 256)
	for _, x := range []struct {
		s    string
		want api.Errno
	}{
		{"", api.ErrForm},
		{" ", api.ErrForm},
		{"--", api.ErrForm},
		{"- ", api.ErrForm},
		{" -", api.ErrForm},
		{"- -", api.ErrForm},
		{"- press", api.ErrForm},
		{"press -", api.ErrForm},
		{" press", api.ErrForm},
		{"press ", api.ErrForm},
		{"tick  press", api.ErrForm},
		{"tick\tpress", api.ErrForm},
		{"tick\npress", api.ErrForm},
		{"tick press\n", api.ErrForm},
		{"tick,press", api.ErrForm},
		{"tick press;", api.ErrForm},
		{"tick # press", api.ErrForm},
		{"tick#press", api.ErrForm},
		{"0", api.ErrForm},
		{"tick 1", api.ErrForm},
		{"_", api.ErrForm},
		{"tock 1", api.ErrForm},
		{"1 tock", api.ErrForm},
		{"tick abcdefghijklmnopq", api.ErrForm},
		{long + "1", api.ErrForm},
		{long + "tock ", api.ErrForm},
		{"tock", api.ErrNone},
		{"Tick", api.ErrNone},
		{"press tock", api.ErrNone},
		{"tock press", api.ErrNone},
		{"on", api.ErrNone},
		{"dark", api.ErrNone},
		{"lamp", api.ErrNone},
		{"end", api.ErrNone},
		{"inputs", api.ErrNone},
		{"tick abcdefghijklmnop", api.ErrNone},
		{long + "tock", api.ErrNone},
		{"tock " + long + "press", api.ErrNone},
		{long + "press", api.ErrLimit},
		{strings.Repeat("tick ", 13106) + "press", api.ErrLimit},
		{strings.Repeat("t ", 32767) + "tt", api.ErrNone},
		{strings.Repeat("t ", 32767) + " t", api.ErrForm},
		{strings.Repeat("t ", 32767) + "ttt", api.ErrLimit},
		{strings.Repeat("t ", 32767) + "1 t", api.ErrLimit},
		{strings.Repeat(" ", 65536), api.ErrForm},
		{strings.Repeat(" ", 65537), api.ErrLimit},
	} {
		if got, e := Word(lamp(), x.s); len(got) != 0 || e != x.want {
			t.Errorf("Word(%.99q) of %d bytes = %.20v, %d; want %d", x.s, len(x.s), got, e, x.want)
		}
	}
	for _, r := range invalid() {
		for _, s := range []string{"press", "", "tock", "-", strings.Repeat(" ", 65537)} {
			if got, e := Word(r.x, s); len(got) != 0 || e != r.want {
				t.Errorf("%s: Word(%.99q) = %v, %d; want %d", r.name, s, got, e, r.want)
			}
		}
	}
}

// P5.4
func TestWordTextRefuses(t *testing.T) {
	for _, x := range []struct {
		w    []int
		want api.Errno
	}{
		{[]int{2}, api.ErrArg},
		{[]int{-1}, api.ErrArg},
		{[]int{0, 1, 0, 2}, api.ErrArg},
		{[]int{math.MaxInt}, api.ErrArg},
		{[]int{0, math.MinInt}, api.ErrArg},
		{make([]int, 257), api.ErrLimit},
		{slices.Repeat([]int{9}, 257), api.ErrLimit},
	} {
		if got, e := WordText(lamp(), x.w); got != "" || e != x.want {
			t.Errorf("WordText(%.20v) = %q, %d; want %d", x.w, got, e, x.want)
		}
	}
	for _, r := range invalid() {
		for _, w := range [][]int{nil, {0}, {9}, {-1}, make([]int, 257)} {
			if got, e := WordText(r.x, w); got != "" || e != r.want {
				t.Errorf("%s: WordText(%.20v) = %q, %d; want %d", r.name, w, got, e, r.want)
			}
		}
	}
}

// P5.5
func TestOutText(t *testing.T) {
	for _, x := range []struct {
		x    Spec
		out  []int
		want string
		e    api.Errno
	}{
		{lamp(), nil, "-", api.OK},
		{lamp(), []int{}, "-", api.OK},
		{lamp(), []int{1}, "off", api.OK},
		{lamp(), []int{0, -1, 1}, "on ! off", api.OK},
		{lamp(), []int{-1}, "!", api.OK},
		{lamp(), []int{-1, -1, -1}, "! ! !", api.OK},
		{lamp(), slices.Repeat([]int{0, -1}, 128), strings.Repeat("on ! ", 127) + "on !", api.OK},
		{largest(16), slices.Repeat([]int{15}, 256), strings.Repeat("o000000000000015 ", 255) + "o000000000000015", api.OK},
		{changed(func(x *Spec) { x.M.Outputs = 3; x.Outs = append(x.Outs, "never") }), []int{2, 0}, "never on", api.OK},
		{least(), []int{0, 0}, "x x", api.OK},
		{least(), []int{0, 1}, "", api.ErrArg},
		{lamp(), []int{2}, "", api.ErrArg},
		{lamp(), []int{-2}, "", api.ErrArg},
		{lamp(), []int{0, -1, 2}, "", api.ErrArg},
		{lamp(), []int{math.MaxInt}, "", api.ErrArg},
		{lamp(), []int{-1, math.MinInt}, "", api.ErrArg},
		{lamp(), make([]int, 257), "", api.ErrLimit},
		{lamp(), slices.Repeat([]int{-1}, 257), "", api.ErrLimit},
		{lamp(), slices.Repeat([]int{9}, 257), "", api.ErrLimit},
	} {
		if got, e := OutText(x.x, x.out); got != x.want || e != x.e {
			t.Errorf("OutText(%.20v) = %q, %d; want %q, %d", x.out, got, e, x.want, x.e)
		}
	}
	for _, r := range invalid() {
		for _, out := range [][]int{nil, {0}, {9}, {-2}, make([]int, 257)} {
			if got, e := OutText(r.x, out); got != "" || e != r.want {
				t.Errorf("%s: OutText(%.20v) = %q, %d; want %d", r.name, out, got, e, r.want)
			}
		}
	}
}

// P5.6
func TestWordsThatAreWrittenAreRead(t *testing.T) {
	for _, x := range []Spec{lamp(), least(), largest(3)} {
		for w := range words.All(x.M.Inputs, 3) {
			s, e := WordText(x, w)
			got, f := Word(x, s)
			if !slices.Equal(got, w) || e != api.OK || f != api.OK {
				t.Errorf("%v is written %q, error %d, and read %v, error %d", w, s, e, got, f)
			}
		}
	}
}

// Rules R1 and R4: arguments stay as they are, and results share memory neither with them nor with each other.
func TestArgumentsAreNeitherChangedNorShared(t *testing.T) {
	room := func(l ...string) []string { return append(make([]string, 0, 8), l...) }
	row := append(make([]api.Edge, 0, 8), api.Edge{To: 1}, none)
	x := Spec{"lamp", api.Machine{Inputs: 2, Outputs: 2, Rows: append(make([][]api.Edge, 0, 8), row, row)}, room("press", "tick"), room("on", "off"), room("dark", "lit")}
	w := append(make([]int, 0, 8), 0, 1, -1)
	before, numbers := clone(x), slices.Clone(w)
	text, _ := Text(x)
	Check(x)
	Same(x, lamp())
	WordText(x, w[:2])
	OutText(x, w)
	if !equal(x, before) || !slices.Equal(w, numbers) || row[:3][2] != (api.Edge{}) || w[:4][3] != 0 || x.Ins[:3][2] != "" || x.Outs[:3][2] != "" || x.States[:3][2] != "" {
		t.Errorf("changed: %v, %v", x, w)
	}
	y, _, _, _ := Parse(text)
	z, _, _, _ := Parse(text)
	u, _ := Word(x, "press tick")
	v, _ := Word(x, "press tick")
	for s := range y.M.Rows {
		y.M.Rows[s][0] = api.Edge{To: 50 + s, Out: 99}
	}
	y.M.Rows[0][1] = api.Edge{To: 70}
	if y.M.Rows[0][0].To != 50 || y.M.Rows[1][1] != none {
		t.Errorf("rows share their memory: %v", y)
	}
	y.Ins[0], y.Outs[0], y.States[0], y.M.Rows[0], u[0] = "a", "b", "c", nil, 99
	if !equal(z, x) || !equal(x, before) || !slices.Equal(v, []int{0, 1}) {
		t.Errorf("results share their memory: %v, %v", z, v)
	}
}
