package lexemes

import (
	"math"
	"regexp"
	"slices"
	"strconv"
	"strings"
	"testing"

	"gauntlet/api"
)

// allMarks are the marks of the chapter.
const allMarks = "! $ % & ( ) * + , - . / : ; < = > ? @ [ ] ^ { | } ~ -> <= >= != :="

// tokens returns tokens of this kind with these texts, without places.
func tokens(kind Kind, texts ...string) []Token {
	l := make([]Token, len(texts))
	for i, text := range texts {
		l[i] = Token{Kind: kind, Text: text}
	}
	return l
}

// valid returns valid tokens of all kinds.
func valid() []Token {
	return slices.Concat(
		tokens(Name, "a", "Z", "z9", "x_1Y", "a_", "A__", "abcdefghijklmnop", "a234567890123456"),
		tokens(Number, "0", "1", "9", "10", "123", "100000000", "999999999"),
		tokens(Mark, strings.Fields(allMarks)...),
	)
}

// invalid returns tokens that are not valid, though some of their texts are those of another kind.
func invalid() []Token {
	return slices.Concat(
		tokens(0, "", "a", "1", "-"),
		tokens(4, "a", "1", "-"),
		tokens(255, "a"),
		tokens(Name, "", "1", "-", "_", "_a", "1a", "abcdefghijklmnopq", " a", "a ", "a b", "a\n", "#", "a#", "a-", "\u00e9", "a\u00e9"),
		tokens(Number, "", "a", "-", "_", "00", "01", "1a", "1_", "0_", "0a", "1000000000", "12345678901", "-1", "+1", " 1", "1 ", "1.", "\u0661"),
		tokens(Mark, "", "a", "1", "#", "_", "\"", "'", "\\", "`", "- ", " -", "--", "->>", "=<", "=>", "==", "=:", "=!", "-> ", "- >", "\x00", "\xff", "\n", strings.Repeat("-", 70000)),
	)
}

// The definitions of the chapter, as expressions.
var (
	skipped = regexp.MustCompile(`^(?s:[ \t\r\n]|#[^\n]*)+`)
	word    = regexp.MustCompile(`^[a-zA-Z0-9_]+`)
	letter  = regexp.MustCompile(`^[a-zA-Z]`)
	name    = regexp.MustCompile(`^[a-zA-Z].{0,15}$`)
	number  = regexp.MustCompile(`^(0|[1-9][0-9]{0,8})$`)
	mark    = regexp.MustCompile(`^(->|<=|>=|!=|:=|[!$%&()*+,\-./:;<=>?@\[\]^{|}~])`)
)

// reference returns the tokens of a text, or the place of its first error, by the definitions.
func reference(s string) (l []Token, line, column int, e api.Errno) {
	for at := 0; ; {
		at += len(skipped.FindString(s[at:]))
		if at == len(s) {
			return l, 0, 0, api.OK
		}
		line, column = 1+strings.Count(s[:at], "\n"), at-strings.LastIndex(s[:at], "\n")
		w, m := word.FindString(s[at:]), mark.FindString(s[at:])
		switch {
		case name.MatchString(w):
			l = append(l, Token{Name, w, line, column})
		case number.MatchString(w):
			l = append(l, Token{Number, w, line, column})
		case m != "":
			l = append(l, Token{Mark, m, line, column})
		case letter.MatchString(w):
			return nil, line, column, api.ErrName
		default:
			return nil, line, column, api.ErrForm
		}
		at += len(w) + len(m)
	}
}

// texts returns all texts up to a length over these parts.
func texts(parts []string, most int) []string {
	all := []string{""}
	before := all
	for range most {
		var longer []string
		for _, s := range before {
			for _, part := range parts {
				longer = append(longer, s+part)
			}
		}
		all = append(all, longer...)
		before = longer
	}
	return all
}

// wantTokens fails unless the text has these tokens with these places.
func wantTokens(t *testing.T, s string, want []Token) {
	t.Helper()
	l, line, column, e := Of(s)
	if e != api.OK || line != 0 || column != 0 || !slices.Equal(l, want) {
		t.Errorf("Of(%.99q) = %v, %d, %d, %d; want %v", s, l, line, column, e, want)
	}
	if cap(l) != len(l) {
		t.Errorf("Of(%.99q): capacity %d of %d tokens", s, cap(l), len(l))
	}
}

// wantRefused fails unless the text has this error at this place.
func wantRefused(t *testing.T, s string, line, column int, want api.Errno) {
	t.Helper()
	l, gotLine, gotColumn, e := Of(s)
	if len(l) != 0 || gotLine != line || gotColumn != column || e != want {
		t.Errorf("Of(%.99q) = %d tokens, %d, %d, %d; want %d, %d, %d", s, len(l), gotLine, gotColumn, e, line, column, want)
	}
}

// P3.1
func TestOf(t *testing.T) {
	for _, x := range []struct {
		s    string
		want []Token
	}{
		{"", nil},
		{" \t\r\n \n", nil},
		{"#", nil},
		{"# a \" \x00 1a\n#", nil},
		{"s0 a/x->t; # yes", []Token{{Name, "s0", 1, 1}, {Name, "a", 1, 4}, {Mark, "/", 1, 5}, {Name, "x", 1, 6}, {Mark, "->", 1, 7}, {Name, "t", 1, 9}, {Mark, ";", 1, 10}}},
		{"a\n  <=12", []Token{{Name, "a", 1, 1}, {Mark, "<=", 2, 3}, {Number, "12", 2, 5}}},
		{"\n\n\ta", []Token{{Name, "a", 3, 2}}},
		{"a\r\nb\rc", []Token{{Name, "a", 1, 1}, {Name, "b", 2, 1}, {Name, "c", 2, 3}}},
		{"a#b\rc\nd", []Token{{Name, "a", 1, 1}, {Name, "d", 2, 1}}},
		{"a#b#c\n#\n\nd", []Token{{Name, "a", 1, 1}, {Name, "d", 4, 1}}},
		{"0 10 999999999", []Token{{Number, "0", 1, 1}, {Number, "10", 1, 3}, {Number, "999999999", 1, 6}}},
		{"1.0-1", []Token{{Number, "1", 1, 1}, {Mark, ".", 1, 2}, {Number, "0", 1, 3}, {Mark, "-", 1, 4}, {Number, "1", 1, 5}}},
		{"abcdefghijklmnop zAZ_09", []Token{{Name, "abcdefghijklmnop", 1, 1}, {Name, "zAZ_09", 1, 18}}},
		{"-->->>", []Token{{Mark, "-", 1, 1}, {Mark, "->", 1, 2}, {Mark, "->", 1, 4}, {Mark, ">", 1, 6}}},
		{"<==>=!=:==", []Token{{Mark, "<=", 1, 1}, {Mark, "=", 1, 3}, {Mark, ">=", 1, 4}, {Mark, "!=", 1, 6}, {Mark, ":=", 1, 8}, {Mark, "=", 1, 10}}},
		{"- > < =\n:\n=", []Token{{Mark, "-", 1, 1}, {Mark, ">", 1, 3}, {Mark, "<", 1, 5}, {Mark, "=", 1, 7}, {Mark, ":", 2, 1}, {Mark, "=", 3, 1}}},
	} {
		wantTokens(t, x.s, x.want)
	}
}

// P3.1
func TestOfRefuses(t *testing.T) {
	for _, x := range []struct {
		s            string
		line, column int
		want         api.Errno
	}{
		{"a 01", 1, 3, api.ErrForm},
		{"ab $ _", 1, 6, api.ErrForm},
		{"abcdefghijklmnopq", 1, 1, api.ErrName},
		{"a\n\n -> abcdefghijklmnopq \"", 3, 5, api.ErrName},
		{"A2345678901234567", 1, 1, api.ErrName},
		{"a_______________________________", 1, 1, api.ErrName},
		{"_a", 1, 1, api.ErrForm},
		{"_abcdefghijklmnopqrstuvw", 1, 1, api.ErrForm},
		{"1000000000", 1, 1, api.ErrForm},
		{"99999999999999999999", 1, 1, api.ErrForm},
		{"00", 1, 1, api.ErrForm},
		{"0000000000", 1, 1, api.ErrForm},
		{"0a", 1, 1, api.ErrForm},
		{"0_", 1, 1, api.ErrForm},
		{"1a", 1, 1, api.ErrForm},
		{"12345678a", 1, 1, api.ErrForm},
		{"123_456", 1, 1, api.ErrForm},
		{"1bcdefghijklmnopqrs", 1, 1, api.ErrForm},
		{"a\"", 1, 2, api.ErrForm},
		{"a \u00e9", 1, 3, api.ErrForm},
		{"\u00e9\u00e9 \x00", 1, 1, api.ErrForm},
		{"ab\u00e9", 1, 3, api.ErrForm},
		{"\xa0", 1, 1, api.ErrForm},
		{"\r\n\t\t'", 2, 3, api.ErrForm},
		{"# fine\n# fine\n 5x # not fine", 3, 2, api.ErrForm},
		{"_ abcdefghijklmnopq", 1, 1, api.ErrForm},
		{"abcdefghijklmnopq _", 1, 1, api.ErrName},
		{"a ->\n01\n\"", 2, 1, api.ErrForm},
	} {
		wantRefused(t, x.s, x.line, x.column, x.want)
	}
}

// P3.1
func TestOfSingleBytes(t *testing.T) {
	for i := range 256 {
		s := string([]byte{byte(i)})
		switch {
		case strings.Contains(" \t\r\n#", s):
			wantTokens(t, s, nil)
		case i >= 'a' && i <= 'z', i >= 'A' && i <= 'Z':
			wantTokens(t, s, []Token{{Name, s, 1, 1}})
		case i >= '0' && i <= '9':
			wantTokens(t, s, []Token{{Number, s, 1, 1}})
		case slices.Contains(strings.Fields(allMarks), s):
			wantTokens(t, s, []Token{{Mark, s, 1, 1}})
		default:
			wantRefused(t, s, 1, 1, api.ErrForm)
			wantTokens(t, "#"+s, nil)
			wantRefused(t, "a->\n "+s, 2, 2, api.ErrForm)
		}
	}
}

// P3.1
func TestOfTwoBytes(t *testing.T) {
	single := strings.Fields(allMarks)
	for _, a := range single {
		for _, b := range single {
			if len(a+b) == 2 && slices.Contains(single, a+b) {
				wantTokens(t, a+b, []Token{{Mark, a + b, 1, 1}})
			} else if len(a+b) == 2 {
				wantTokens(t, a+b, []Token{{Mark, a, 1, 1}, {Mark, b, 1, 2}})
			}
		}
	}
}

// P3.1
func TestOfFollowsTheDefinition(t *testing.T) {
	parts := []string{"a", "B", "_", "0", "1", "-", ">", "=", ":", "#", " ", "\r", "\n", "\"", "abcdefghijklmnop", "12345678"}
	for _, s := range texts(parts, 4) {
		l, line, column, e := reference(s)
		if e == api.OK {
			wantTokens(t, s, l)
		} else {
			wantRefused(t, s, line, column, e)
		}
	}
}

// P3.1
func TestOfLongTexts(t *testing.T) {
	for _, s := range []string{" ", "a", "\n", "#", "-", "\"", "1", "ab "} {
		wantRefused(t, strings.Repeat(s, 65537), 0, 0, api.ErrLimit)
	}
	wantRefused(t, strings.Repeat("a ", 32768)+" ", 0, 0, api.ErrLimit)
	wantRefused(t, strings.Repeat("a", 65536), 1, 1, api.ErrName)
	wantRefused(t, strings.Repeat("1", 65536), 1, 1, api.ErrForm)
	wantRefused(t, strings.Repeat("\n", 65535)+"_", 65536, 1, api.ErrForm)
	wantRefused(t, strings.Repeat(" ", 65535)+"\"", 1, 65536, api.ErrForm)
	wantTokens(t, strings.Repeat("\n", 65536), nil)
	wantTokens(t, strings.Repeat("#", 65536), nil)
	wantTokens(t, strings.Repeat("\n", 65535)+"a", []Token{{Name, "a", 65536, 1}})
	wantTokens(t, strings.Repeat(" ", 65534)+"->", []Token{{Mark, "->", 1, 65535}})
	many := make([]Token, 65536)
	for i := range many {
		many[i] = Token{Mark, "*", 1, i + 1}
	}
	wantTokens(t, strings.Repeat("*", 65536), many)
}

// P3.1
func TestOfGivesNewMemory(t *testing.T) {
	l, _, _, _ := Of("a b")
	m, _, _, _ := Of("a b")
	l[0] = Token{}
	if want := []Token{{Name, "a", 1, 1}, {Name, "b", 1, 3}}; !slices.Equal(m, want) {
		t.Errorf("after a change of another result: %v", m)
	}
}

// P3.2
func TestCheck(t *testing.T) {
	for _, x := range valid() {
		for _, place := range [][2]int{{0, 0}, {1, 1}, {-5, 7}, {math.MinInt, math.MaxInt}} {
			x.Line, x.Column = place[0], place[1]
			if e := Check(x); e != api.OK {
				t.Errorf("Check(%v) = %d", x, e)
			}
		}
	}
	for _, x := range invalid() {
		x.Line, x.Column = 1, 1
		if e := Check(x); e != api.ErrArg {
			t.Errorf("Check(%d %.99q) = %d", x.Kind, x.Text, e)
		}
	}
	if e := Check(Token{}); e != api.ErrArg {
		t.Errorf("Check of no token = %d", e)
	}
}

// P3.2
func TestCheckFollowsTheDefinition(t *testing.T) {
	for _, s := range texts([]string{"a", "_", "0", "1", "-", ">", "#", " ", "\n", "\"", "abcdefghijklmno", "12345678"}, 3) {
		l, _, _, e := reference(s)
		for kind := range Kind(5) {
			isToken := e == api.OK && len(l) == 1 && l[0].Text == s && l[0].Kind == kind
			if got := Check(Token{Kind: kind, Text: s}); isToken != (got == api.OK) || !isToken != (got == api.ErrArg) {
				t.Errorf("Check(%d %q) = %d", kind, s, got)
			}
		}
	}
}

// P3.2
func TestValue(t *testing.T) {
	for _, n := range []int{0, 1, 9, 10, 12, 100, 123456789, 999999999} {
		x := Token{Number, strconv.Itoa(n), -1, math.MaxInt}
		if got, e := Value(x); got != n || e != api.OK {
			t.Errorf("Value(%v) = %d, %d", x, got, e)
		}
	}
	for _, x := range slices.Concat(invalid(), tokens(Name, "a", "x1"), tokens(Mark, "-", "->")) {
		if got, e := Value(x); got != 0 || e != api.ErrArg {
			t.Errorf("Value(%d %.99q) = %d, %d", x.Kind, x.Text, got, e)
		}
	}
}

// P3.3
func TestText(t *testing.T) {
	for _, x := range []struct {
		l    []Token
		want string
	}{
		{nil, ""},
		{[]Token{}, ""},
		{tokens(Name, "a"), "a"},
		{slices.Concat(tokens(Name, "a"), tokens(Mark, "-", ">")), "a - >"},
		{slices.Concat(tokens(Name, "a"), tokens(Mark, "->")), "a ->"},
		{[]Token{{Number, "1", -3, 9}, {Number, "0", 7, 7}, {Name, "x_", 0, 0}, {Mark, ":=", 1, 1}}, "1 0 x_ :="},
		{tokens(Mark, strings.Fields(allMarks)...), allMarks},
	} {
		before := slices.Clone(x.l)
		if s, e := Text(x.l); s != x.want || e != api.OK {
			t.Errorf("Text(%v) = %q, %d; want %q", x.l, s, e, x.want)
		}
		if !slices.Equal(x.l, before) {
			t.Errorf("Text changed %v to %v", before, x.l)
		}
	}
}

// P3.3
func TestTextRefuses(t *testing.T) {
	long := tokens(Name, slices.Repeat([]string{"abcdefghijklmnop"}, 5000)...)
	for _, x := range invalid() {
		for _, l := range [][]Token{
			{x},
			slices.Concat(tokens(Name, "a"), []Token{x}),
			slices.Concat([]Token{x}, tokens(Mark, "->")),
			slices.Concat(long, []Token{x}),
		} {
			if s, e := Text(l); s != "" || e != api.ErrArg {
				t.Errorf("Text with %d %.99q among %d = %d bytes, %d", x.Kind, x.Text, len(l), len(s), e)
			}
		}
	}
	if s, e := Text(long); s != "" || e != api.ErrLimit {
		t.Errorf("Text of 5000 long names = %d bytes, %d", len(s), e)
	}
}

// P3.3
func TestTextLength(t *testing.T) {
	// Names of one byte with blanks between them have odd lengths; a longer name makes them even.
	odd := tokens(Name, slices.Repeat([]string{"a"}, 32768)...)
	even := slices.Concat(odd[:32767], tokens(Name, "ab", "c"))
	for _, x := range []struct {
		l    []Token
		want int
	}{
		{odd, 65535},
		{even[:32768], 65536},
	} {
		if s, e := Text(x.l); len(s) != x.want || e != api.OK {
			t.Errorf("Text of %d tokens = %d bytes, %d; want %d", len(x.l), len(s), e, x.want)
		}
	}
	for _, l := range [][]Token{even, slices.Concat(odd, odd[:1]), slices.Concat(odd[1:], tokens(Name, "abc"))} {
		if s, e := Text(l); s != "" || e != api.ErrLimit {
			t.Errorf("Text of %d tokens = %d bytes, %d", len(l), len(s), e)
		}
	}
}

// P3.4
func TestSame(t *testing.T) {
	l := []Token{{Name, "a", 1, 1}, {Mark, "->", 1, 2}, {Number, "0", 2, 1}}
	moved := []Token{{Name, "a", 5, -1}, {Mark, "->", 0, math.MaxInt}, {Number, "0", 1, 1}}
	for _, x := range []struct {
		name string
		a, b []Token
		want bool
	}{
		{"nothing", nil, []Token{}, true},
		{"itself", l, l, true},
		{"other places", l, moved, true},
		{"nothing and something", nil, l, false},
		{"fewer", l, moved[:2], false},
		{"fewer at the beginning", l, moved[1:], false},
		{"another order", l, []Token{l[1], l[0], l[2]}, false},
		{"another text", l, []Token{l[0], l[1], {Number, "1", 2, 1}}, false},
		{"another kind", l, []Token{l[0], l[1], {Name, "0", 2, 1}}, false},
		{"the first one differs", l, []Token{{Name, "b", 1, 1}, l[1], l[2]}, false},
		{"no valid tokens", tokens(9, "?"), tokens(9, "?"), true},
		{"other kinds of no tokens", tokens(0, "a"), tokens(9, "a"), false},
		{"a text in other parts", tokens(Name, "ab", "c"), tokens(Name, "a", "bc"), false},
	} {
		if Same(x.a, x.b) != x.want || Same(x.b, x.a) != x.want {
			t.Errorf("%s: %v, %v; want %v", x.name, Same(x.a, x.b), Same(x.b, x.a), x.want)
		}
	}
}

// P3.5
func TestTextIsDividedIntoTheSame(t *testing.T) {
	all := valid()
	lists := [][]Token{nil, all, slices.Repeat(all, 100)}
	for _, a := range all {
		lists = append(lists, []Token{a})
		for _, b := range all {
			lists = append(lists, []Token{a, b})
		}
	}
	for _, l := range lists {
		s, e := Text(l)
		if e != api.OK {
			t.Errorf("Text(%v): error %d", l, e)
		}
		if m, _, _, e := Of(s); e != api.OK || !Same(l, m) {
			t.Errorf("%q is divided into %v, error %d", s, m, e)
		}
	}
}

// P3.5
func TestTextsWithALineBetween(t *testing.T) {
	parts := []string{"a", "12", "-", ">", "#", " ", "\n", "_"}
	for _, a := range texts(parts, 3) {
		for _, b := range texts(parts, 2) {
			l, line, column, e := Of(a)
			if e == api.OK {
				var behind []Token
				lines := strings.Count(a, "\n") + 1
				behind, line, column, e = Of(b)
				for _, x := range behind {
					l = append(l, Token{x.Kind, x.Text, x.Line + lines, x.Column})
				}
				line += lines
			}
			if e == api.OK {
				wantTokens(t, a+"\n"+b, l)
			} else {
				wantRefused(t, a+"\n"+b, line, column, e)
			}
		}
	}
}

// P3.5
func TestRemarksChangeNothing(t *testing.T) {
	remarks := []string{"", "#", " a", "\"'\\`", "\x00\xff\u00e9", "01 _ abcdefghijklmnopq", "->\r", strings.Repeat("x", 60000)}
	for _, s := range []string{"", "a", "a -", "1->", "\n\n :="} {
		bare, _, _, _ := Of(s + "\n>b")
		for _, remark := range remarks {
			wantTokens(t, s+"#"+remark+"\n>b", bare)
			wantRefused(t, s+"#"+remark+"\n\n  _", strings.Count(s, "\n")+3, 3, api.ErrForm)
		}
	}
}
