package specs

import (
	"slices"

	"gauntlet/api"
	"gauntlet/lexemes"
)

// Parse returns the specification that a text tells, or the place of the first error.
func Parse(s string) (x Spec, line, column int, e api.Errno) {
	tokens, line, column, e := lexemes.Of(s)
	if e != api.OK {
		return Spec{}, line, column, e
	}
	defer func() {
		if why, refused := recover().(refusal); refused {
			line, column, e = why.line, why.column, why.e
		}
	}()
	r := &reader{tokens: tokens}
	for _, part := range [...]func(){r.title, r.inputs, r.outputs, r.states, r.edges, r.end} {
		part()
	}
	return r.x, 0, 0, api.OK
}

// refusal is the place and the error with which a reader gives up.
type refusal struct {
	line, column int
	e            api.Errno
}

// refuse gives up because of a token.
func refuse(t lexemes.Token, e api.Errno) {
	panic(refusal{t.Line, t.Column, e})
}

// reader reads the tokens of a text, one after the other, into a specification. At the first error it panics with a refusal.
type reader struct {
	tokens []lexemes.Token
	read   int // how many tokens have been read
	x      Spec
}

// next reads a token.
func (r *reader) next() lexemes.Token {
	if r.read == len(r.tokens) {
		refuse(r.last(), api.ErrForm)
	}
	r.read++
	return r.last()
}

// last returns the token that has been read last. If there is none, it has the place at which a text begins.
func (r *reader) last() lexemes.Token {
	if r.read == 0 {
		return lexemes.Token{Line: 1, Column: 1}
	}
	return r.tokens[r.read-1]
}

// meets reports whether the next token has this text.
func (r *reader) meets(text string) bool {
	return r.read < len(r.tokens) && r.tokens[r.read].Text == text
}

// must reads a token that must have this text. That tells its kind as well.
func (r *reader) must(text string) {
	if t := r.next(); t.Text != text {
		refuse(t, api.ErrForm)
	}
}

// name reads a token that must be a name.
func (r *reader) name() lexemes.Token {
	t := r.next()
	if t.Kind != lexemes.Name {
		refuse(t, api.ErrForm)
	}
	if isReserved(t.Text) {
		refuse(t, api.ErrName)
	}
	return t
}

// title reads the line with the name of the machine.
func (r *reader) title() {
	r.must(machineWord)
	r.x.Name = r.name().Text
	r.must(lastMark)
}

// inputs reads the line with the inputs.
func (r *reader) inputs() {
	r.x.Ins = r.list(inputsWord, api.MaxInputs)
}

// outputs reads the line with the outputs.
func (r *reader) outputs() {
	r.x.Outs = r.list(outputsWord, api.MaxOutputs)
}

// states reads the line with the states.
func (r *reader) states() {
	r.x.States = r.list(statesWord, api.MaxStates)
}

// list reads a line that begins with a reserved word, and returns its names.
func (r *reader) list(word string, most int) []string {
	r.must(word)
	var names []string
	for {
		t := r.name()
		if slices.Contains(names, t.Text) {
			refuse(t, api.ErrThere)
		}
		if len(names) == most {
			refuse(t, api.ErrLimit)
		}
		names = append(names, t.Text)
		if !r.meets(comma) {
			r.must(lastMark)
			return slices.Clip(names)
		}
		r.must(comma)
	}
}

// edges reads the lines with the edges.
func (r *reader) edges() {
	r.x.M = withoutEdges(len(r.x.Ins), len(r.x.Outs), len(r.x.States))
	ins, outs, states := placesOf(r.x.Ins), placesOf(r.x.Outs), placesOf(r.x.States)
	for !r.meets(endWord) {
		r.edge(ins, outs, states)
	}
}

// edge reads the line with an edge. The lists tell where each name stands.
func (r *reader) edge(ins, outs, states map[string]int) {
	s := r.of(states)
	first := r.last()
	i := r.of(ins)
	r.must(slash)
	out := r.of(outs)
	r.must(arrow)
	to := r.of(states)
	r.must(lastMark)
	edge := &r.x.M.Rows[s][i]
	if edge.To != api.None {
		refuse(first, api.ErrThere)
	}
	*edge = api.Edge{To: to, Out: out}
}

// of reads a name that must be one of a list, and returns where it stands there.
func (r *reader) of(places map[string]int) int {
	t := r.name()
	place, there := places[t.Text]
	if !there {
		refuse(t, api.ErrNone)
	}
	return place
}

// end reads the last line, behind which nothing may stand.
func (r *reader) end() {
	r.must(endWord)
	r.must(lastMark)
	if r.read < len(r.tokens) {
		refuse(r.next(), api.ErrForm)
	}
}

// withoutEdges returns a machine in which no edge is defined.
func withoutEdges(inputs, outputs, states int) api.Machine {
	rows := make([][]api.Edge, states)
	for s := range rows {
		rows[s] = slices.Repeat([]api.Edge{{To: api.None, Out: api.None}}, inputs)
	}
	return api.Machine{Inputs: inputs, Outputs: outputs, Rows: rows}
}
