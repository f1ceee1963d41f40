package specs

import (
	"slices"
	"strings"
	"testing"

	"gauntlet/api"
	"gauntlet/lexemes"
)

// reference returns by the definitions the specification that a text tells, or the place of its first error.
func reference(s string) (x Spec, line, column int, e api.Errno) {
	tokens, line, column, e := lexemes.Of(s)
	if e != api.OK {
		return Spec{}, line, column, e
	}
	var lines [][]string
	var now []string
	for n, t := range tokens {
		if e := errorOf(lines, now, t); e != api.OK {
			return Spec{}, t.Line, t.Column, e
		}
		if t.Text != ";" {
			now = append(now, t.Text)
			continue
		}
		again := func(line []string) bool { return len(now) == 6 && slices.Equal(line[:2], now[:2]) }
		if len(lines) > 4 && slices.ContainsFunc(lines[4:], again) {
			return Spec{}, tokens[n-6].Line, tokens[n-6].Column, api.ErrThere
		}
		lines, now = append(lines, now), nil
	}
	if len(tokens) == 0 {
		return Spec{}, 1, 1, api.ErrForm
	}
	if last := tokens[len(tokens)-1]; !ended(lines) || len(now) > 0 {
		return Spec{}, last.Line, last.Column, api.ErrForm
	}
	return told(lines), 0, 0, api.OK
}

// ended reports whether the last one of these lines is the last one of a text.
func ended(lines [][]string) bool {
	return len(lines) > 4 && lines[len(lines)-1][0] == "end"
}

// errorOf returns the error of a token that follows these lines, which are right and have lost their last marks, and the beginning of another one.
func errorOf(lines [][]string, now []string, t lexemes.Token) api.Errno {
	of := func(line int) api.Errno { return errorOfName(t, listed(lines[line])) }
	switch {
	case ended(lines):
		return api.ErrForm
	case len(lines) == 0 && len(now) == 1:
		return errorOfName(t, []string{t.Text})
	case len(lines) == 0:
		return errorOfMark(t, []string{"machine", "", ";"}[len(now)])
	case len(lines) < 4 && len(now) == 0:
		return errorOfMark(t, []string{"inputs", "outputs", "states"}[len(lines)-1])
	case len(lines) < 4 && len(now)%2 == 0:
		return errorOfMark(t, ",", ";")
	case len(lines) < 4:
		return errorOfNew(t, listed(now), []int{16, 16, 64}[len(lines)-1])
	case len(now) == 0 && t.Text == "end":
		return api.OK
	case len(now) == 1 && now[0] == "end":
		return errorOfMark(t, ";")
	case len(now)%5 == 0:
		return of(3)
	case len(now) == 1:
		return of(1)
	case len(now) == 3:
		return of(2)
	}
	return errorOfMark(t, []string{"", "", "/", "", "->", "", ";"}[len(now)])
}

// listed returns the names of a line that lists them.
func listed(line []string) []string {
	var l []string
	for n := 1; n < len(line); n += 2 {
		l = append(l, line[n])
	}
	return l
}

// errorOfMark returns the error of a token that must be one of these.
func errorOfMark(t lexemes.Token, texts ...string) api.Errno {
	if slices.Contains(texts, t.Text) {
		return api.OK
	}
	return api.ErrForm
}

// errorOfName returns the error of a token that must be one of these names.
func errorOfName(t lexemes.Token, of []string) api.Errno {
	switch {
	case t.Kind != lexemes.Name:
		return api.ErrForm
	case slices.Contains([]string{"machine", "inputs", "outputs", "states", "end"}, t.Text):
		return api.ErrName
	case !slices.Contains(of, t.Text):
		return api.ErrNone
	}
	return api.OK
}

// errorOfNew returns the error of a token that must be a name behind others, so many at most.
func errorOfNew(t lexemes.Token, before []string, most int) api.Errno {
	if e := errorOfName(t, []string{t.Text}); e != api.OK {
		return e
	}
	switch {
	case slices.Contains(before, t.Text):
		return api.ErrThere
	case len(before) >= most:
		return api.ErrLimit
	}
	return api.OK
}

// told returns the specification of the lines of a text, without their last marks.
func told(lines [][]string) Spec {
	x := Spec{Name: lines[0][1], Ins: listed(lines[1]), Outs: listed(lines[2]), States: listed(lines[3])}
	x.M = api.Machine{Inputs: len(x.Ins), Outputs: len(x.Outs)}
	for range x.States {
		x.M.Rows = append(x.M.Rows, slices.Repeat([]api.Edge{none}, len(x.Ins)))
	}
	for _, l := range lines[4 : len(lines)-1] {
		x.M.Rows[slices.Index(x.States, l[0])][slices.Index(x.Ins, l[1])] = api.Edge{To: slices.Index(x.States, l[5]), Out: slices.Index(x.Outs, l[3])}
	}
	return x
}

// wantParsed fails unless a text tells this specification.
func wantParsed(t *testing.T, s string, want Spec) {
	t.Helper()
	x, line, column, e := Parse(s)
	if !equal(x, want) || line != 0 || column != 0 || e != api.OK {
		t.Errorf("Parse(%.500q) = %v, %d, %d, %d; want %v", s, x, line, column, e, want)
	}
	if !full(x) {
		t.Errorf("Parse(%.500q): more capacity than length", s)
	}
}

// wantRefused fails unless a text has this error at this place.
func wantRefused(t *testing.T, s string, line, column int, want api.Errno) {
	t.Helper()
	x, gotLine, gotColumn, e := Parse(s)
	if !equal(x, Spec{}) || gotLine != line || gotColumn != column || e != want {
		t.Errorf("Parse(%.500q) = %v, %d, %d, %d; want %d, %d, %d", s, x, gotLine, gotColumn, e, line, column, want)
	}
}

// wantByReference fails unless a text is read, or refused, by the definitions. It returns the error.
func wantByReference(t *testing.T, s string) api.Errno {
	t.Helper()
	x, line, column, e := reference(s)
	if e != api.OK {
		wantRefused(t, s, line, column, e)
		return e
	}
	wantParsed(t, s, x)
	if e := Check(x); e != api.OK {
		t.Errorf("Parse(%.500q): error %d of the specification", s, e)
	}
	return e
}

// tokensOf returns the texts of the tokens of a text.
func tokensOf(t *testing.T, s string) []string {
	t.Helper()
	tokens, _, _, e := lexemes.Of(s)
	if e != api.OK {
		t.Fatalf("no tokens: %q", s)
	}
	l := make([]string, len(tokens))
	for n, token := range tokens {
		l[n] = token.Text
	}
	return l
}

// laidOut returns a text with these tokens in lines of seven of them.
func laidOut(tokens []string) string {
	var b strings.Builder
	for n, token := range tokens {
		b.WriteString(token)
		b.WriteByte(" \n"[(n%7)/6])
	}
	return b.String()
}

// P5.3
func TestParse(t *testing.T) {
	wantParsed(t, lampText, lamp())
	wantParsed(t, leastText, least())
	wantParsed(t, "machine m;inputs a;outputs x;states s;s a/x->s;end;", least())
	wantParsed(t, "machine\nm\n;\ninputs\na\n;\noutputs\nx\n;\nstates\ns\n;\ns\na\n/\nx\n->\ns\n;\nend\n;", least())
	wantParsed(t, "# end;\n\t machine m; # a\r\n inputs a;# ;\noutputs x; states s;\ns a / x -> s; end; # end;", least())
	wantParsed(t, "machine lamp; inputs press,tick; outputs on,off; states dark,lit; lit press/off->dark; dark tick/off->dark; dark press/on->lit; end;", lamp())
	wantParsed(t, "machine a; inputs a; outputs a; states a; a a / a -> a; end;",
		Spec{"a", api.Machine{Inputs: 1, Outputs: 1, Rows: [][]api.Edge{{{}}}}, []string{"a"}, []string{"a"}, []string{"a"}})
	wantParsed(t, "machine End; inputs Machine; outputs end_, ends; states Inputs, state; state Machine / ends -> Inputs; end;",
		Spec{"End", api.Machine{Inputs: 1, Outputs: 2, Rows: [][]api.Edge{{none}, {{To: 0, Out: 1}}}}, []string{"Machine"}, []string{"end_", "ends"}, []string{"Inputs", "state"}})
	wantParsed(t, "machine lamp; inputs press, tick; outputs on, off; states dark, lit; end;",
		changed(func(x *Spec) { x.M.Rows = [][]api.Edge{{none, none}, {none, none}} }))
	wantParsed(t, leastText+strings.Repeat(" ", 65536-len(leastText)), least())
	for _, x := range valid() {
		if text, e := Text(x); e == api.OK {
			wantParsed(t, text, x)
		}
	}
}

// P5.3
func TestParseRefuses(t *testing.T) {
	wantRefused(t, strings.Replace(lampText, "dark tick", "dark tock", 1), 6, 6, api.ErrNone)
	for _, x := range []struct {
		s            string
		line, column int
		want         api.Errno
	}{
		{"", 1, 1, api.ErrForm},
		{" \n ", 1, 1, api.ErrForm},
		{"\n\n# end;", 1, 1, api.ErrForm},
		{"machine end;", 1, 9, api.ErrName},
		{"machine a; inputs b", 1, 19, api.ErrForm},
		{"machine", 1, 1, api.ErrForm},
		{"\n machine # m", 2, 2, api.ErrForm},
		{"Machine m;", 1, 1, api.ErrForm},
		{"m;", 1, 1, api.ErrForm},
		{"inputs a;", 1, 1, api.ErrForm},
		{"; machine m;", 1, 1, api.ErrForm},
		{"end;", 1, 1, api.ErrForm},
		{"machine machine;", 1, 9, api.ErrName},
		{"machine 1;", 1, 9, api.ErrForm},
		{"machine ;", 1, 9, api.ErrForm},
		{"machine m n;", 1, 11, api.ErrForm},
		{"machine m end;", 1, 11, api.ErrForm},
		{"machine m, n;", 1, 10, api.ErrForm},
		{"machine m; outputs x;", 1, 12, api.ErrForm},
		{"machine m; end;", 1, 12, api.ErrForm},
		{"machine m; inputs;", 1, 18, api.ErrForm},
		{"machine m; inputs a,;", 1, 21, api.ErrForm},
		{"machine m; inputs a,,b;", 1, 21, api.ErrForm},
		{"machine m; inputs a,", 1, 20, api.ErrForm},
		{"machine m; inputs a b;", 1, 21, api.ErrForm},
		{"machine m; inputs a end;", 1, 21, api.ErrForm},
		{"machine m; inputs ,a;", 1, 19, api.ErrForm},
		{"machine m; inputs 0;", 1, 19, api.ErrForm},
		{"machine m; inputs a, outputs x;", 1, 22, api.ErrName},
		{"machine m; inputs a, b, a;", 1, 25, api.ErrThere},
		{"machine m; inputs a; inputs a;", 1, 22, api.ErrForm},
		{"machine m; inputs a; outputs x; states s, t, t, end;", 1, 46, api.ErrThere},
		{"machine m; inputs a; outputs x; states s; machine m; end;", 1, 43, api.ErrName},
		{"machine m; inputs a; outputs x; states s; end a / x -> s; end;", 1, 47, api.ErrForm},
		{"machine m; inputs a; outputs x; states s; ; end;", 1, 43, api.ErrForm},
		{"machine m; inputs a; outputs x; states s; x a / x -> s; end;", 1, 43, api.ErrNone},
		{"machine m; inputs a; outputs x; states s; s s / x -> s; end;", 1, 45, api.ErrNone},
		{"machine m; inputs a; outputs x; states s; s end; end;", 1, 45, api.ErrName},
		{"machine m; inputs a; outputs x; states s; s a / a -> s; end;", 1, 49, api.ErrNone},
		{"machine m; inputs a; outputs x; states s; s a / end -> s; end;", 1, 49, api.ErrName},
		{"machine m; inputs a; outputs x; states s; s a / 1 -> s; end;", 1, 49, api.ErrForm},
		{"machine m; inputs a; outputs x; states s; s a / x -> a; end;", 1, 54, api.ErrNone},
		{"machine m; inputs a; outputs x; states s; s a / x -> end;", 1, 54, api.ErrName},
		{"machine m; inputs a; outputs x; states s; s a / x -> s end;", 1, 56, api.ErrForm},
		{"machine m; inputs a; outputs x; states s; s a / x - > s; end;", 1, 51, api.ErrForm},
		{"machine m; inputs a; outputs x; states s; s a / x >= s; end;", 1, 51, api.ErrForm},
		{"machine m; inputs a; outputs x; states s; s a x -> s; end;", 1, 47, api.ErrForm},
		{"machine m; inputs a; outputs x; states s; s a / x -> s", 1, 54, api.ErrForm},
		{"machine m; inputs a; outputs x; states s; s a / x -> s; end", 1, 57, api.ErrForm},
		{"machine m; inputs a; outputs x; states s; end,", 1, 46, api.ErrForm},
		{"machine m; inputs a; outputs x; states s; end; end;", 1, 48, api.ErrForm},
		{"machine m; inputs a; outputs x; states s; end; machine", 1, 48, api.ErrForm},
		{"machine m; inputs a; outputs x; states s; end;;", 1, 47, api.ErrForm},
		{leastText + leastText, 7, 1, api.ErrForm},
	} {
		wantRefused(t, x.s, x.line, x.column, x.want)
		if e := wantByReference(t, x.s); e != x.want {
			t.Errorf("the reference says %d of %q", e, x.s)
		}
	}
}

// P5.3
func TestParseRefusesTokensFirst(t *testing.T) {
	wantRefused(t, "machine end; $ \"", 1, 16, api.ErrForm)
	wantRefused(t, "; abcdefghijklmnopq", 1, 3, api.ErrName)
	wantRefused(t, leastText+"\n\t01", 8, 2, api.ErrForm)
	wantRefused(t, "machine _m;", 1, 9, api.ErrForm)
	wantRefused(t, "machine abcdefghijklmnopq; \x00", 1, 9, api.ErrName)
	wantRefused(t, leastText+strings.Repeat(" ", 65537-len(leastText)), 0, 0, api.ErrLimit)
	wantRefused(t, strings.Repeat("\x00", 65537), 0, 0, api.ErrLimit)
}

// P5.3
func TestParseFindsAnEdgeThatIsThere(t *testing.T) {
	head := "machine m;\ninputs a, b;\noutputs x, y;\nstates s, t;\ns a / x -> t;\n"
	for _, x := range []struct {
		edges        string
		line, column int
		want         api.Errno
	}{
		{"s a / x -> t; end;", 6, 1, api.ErrThere},
		{" s a / y -> s; end;", 6, 2, api.ErrThere},
		{"t a / x -> t; s b / x -> t;\n s\n a\n / x -> s\n; t a / x -> t; end;", 7, 2, api.ErrThere},
		{"t b / x -> t; t b / x -> t; s a / x -> t; end;", 6, 15, api.ErrThere},
		{"s a / z -> t; end;", 6, 7, api.ErrNone},
		{"s a / x -> end;", 6, 12, api.ErrName},
		{"s a / x -> t end;", 6, 14, api.ErrForm},
		{"s a / x -> t", 6, 12, api.ErrForm},
		{"s a; end;", 6, 4, api.ErrForm},
		{"s a / x -> t;", 6, 1, api.ErrThere},
	} {
		wantRefused(t, head+x.edges, x.line, x.column, x.want)
		if e := wantByReference(t, head+x.edges); e != x.want {
			t.Errorf("the reference says %d of %q", e, x.edges)
		}
	}
	// An edge that is the other way round is another one, also one whose state and input have equal names.
	wantByReference(t, "machine m; inputs s, t; outputs x; states s, t; s t / x -> s; t s / x -> s; s s / x -> t; t t / x -> t; end;")
}

// P5.3
func TestParseAtTheLimits(t *testing.T) {
	text := func(ins, outs, states int, more string) string {
		list := func(letter string, count int) string { return strings.Join(names(letter, 3, count), ", ") }
		return "machine m;\ninputs " + list("i", ins) + ";\noutputs " + list("o", outs) + ";\nstates " + list("s", states) + more + ";\nend;"
	}
	x, _, _, e := Parse(text(16, 16, 64, ""))
	if e != api.OK || x.M.Inputs != 16 || x.M.Outputs != 16 || len(x.M.Rows) != 64 || Check(x) != api.OK {
		t.Errorf("most of all: %v, error %d", x, e)
	}
	wantRefused(t, text(17, 16, 64, ""), 2, 88, api.ErrLimit)
	wantRefused(t, text(16, 17, 64, ""), 3, 89, api.ErrLimit)
	wantRefused(t, text(16, 16, 65, ""), 4, 328, api.ErrLimit)
	wantRefused(t, text(16, 18, 66, ""), 3, 89, api.ErrLimit)
	wantRefused(t, text(16, 16, 64, ", s00"), 4, 328, api.ErrThere)
	wantRefused(t, text(16, 16, 64, ", s063"), 4, 328, api.ErrLimit)
	wantRefused(t, text(16, 16, 64, ", s63"), 4, 328, api.ErrThere)
	wantRefused(t, text(16, 16, 64, ", end"), 4, 328, api.ErrName)
	wantRefused(t, text(16, 16, 64, ", 64"), 4, 328, api.ErrForm)
	wantRefused(t, text(16, 16, 64, ","), 4, 327, api.ErrForm)
	wantRefused(t, text(16, 16, 64, " s64"), 4, 327, api.ErrForm)
}

// Each token of a text is left out, replaced, and preceded by others, and the text ends behind it.
// P5.3
func TestParseFollowsTheDefinition(t *testing.T) {
	others := strings.Fields("machine inputs outputs states end lamp press tick on off dark lit other 0 12 ; , / -> - > :=")
	tokens := tokensOf(t, lampText)
	met := map[api.Errno]int{}
	try := func(tokens []string) { met[wantByReference(t, laidOut(tokens))]++ }
	for n := range tokens {
		try(tokens[:n])
		try(slices.Delete(slices.Clone(tokens), n, n+1))
		for _, other := range others {
			try(slices.Replace(slices.Clone(tokens), n, n+1, other))
			try(slices.Insert(slices.Clone(tokens), n, other))
		}
	}
	try(tokens)
	for _, other := range others {
		try(append(slices.Clone(tokens), other))
	}
	for _, e := range []api.Errno{api.OK, api.ErrName, api.ErrThere, api.ErrNone, api.ErrForm} {
		if met[e] == 0 {
			t.Errorf("no text with the error %d", e)
		}
	}
}

// Any two tokens of a text are replaced.
// P5.3
func TestParseFindsTheFirstOfTwoErrors(t *testing.T) {
	others := strings.Fields("machine end m a x s b 0 ; , / ->")
	tokens := tokensOf(t, "machine m; inputs a, b; outputs x; states s; s a / x -> s; end;")
	for n := range tokens {
		for k := range n {
			for _, first := range others {
				for _, second := range others {
					changed := slices.Clone(tokens)
					changed[k], changed[n] = first, second
					wantByReference(t, laidOut(changed))
				}
			}
		}
	}
}

// P5.6
func TestWhatIsWrittenIsRead(t *testing.T) {
	for _, x := range valid() {
		text, e := Text(x)
		if e != api.OK {
			continue
		}
		y, _, _, _ := Parse(text)
		if !Same(x, y) {
			t.Errorf("%v is read as %v", x, y)
		}
		if again, e := Text(y); again != text || e != api.OK {
			t.Errorf("%q is written again as %q, error %d", text, again, e)
		}
	}
}

// P5.6
func TestBlanksAndRemarksChangeNothing(t *testing.T) {
	tokens := tokensOf(t, lampText)
	for _, between := range []string{" ", "\t", "\r", "\n", "\r\n", "  \n\t ", "#\n", " # end;\n", "#\"\x00 01 _\r\n", "\n\n#;#;\n#\n"} {
		wantParsed(t, between+strings.Join(tokens, between)+between, lamp())
		for n := range tokens {
			wantParsed(t, strings.Join(tokens[:n], " ")+between+strings.Join(tokens[n:], " "), lamp())
		}
	}
	wantParsed(t, lampText+"# end", lamp())
}

// P5.6
func TestTheOrderOfEdgesChangesNothing(t *testing.T) {
	x := changed(func(x *Spec) { x.M.Rows[1][1] = api.Edge{To: 1, Out: 0} })
	text, _ := Text(x)
	lines := strings.SplitAfter(text, "\n")
	for n := range 4 * 4 * 4 * 4 {
		order := []int{n % 4, n / 4 % 4, n / 16 % 4, n / 64}
		var b strings.Builder
		for _, l := range slices.Concat([]int{-4, -3, -2, -1}, order, []int{4}) {
			b.WriteString(lines[l+4])
		}
		repeated := slices.Compact(slices.Sorted(slices.Values(order)))
		if len(repeated) == 4 {
			wantParsed(t, b.String(), x)
		} else if e := wantByReference(t, b.String()); e != api.ErrThere {
			t.Errorf("order %v: error %d", order, e)
		}
	}
	// Of the largest specification all edges are told from the last one to the first one.
	large, _ := Text(largest(3))
	lines = strings.SplitAfter(large, "\n")
	slices.Reverse(lines[4 : 4+64*16])
	wantParsed(t, strings.Join(lines, ""), largest(3))
}
