package classes

import (
	"math"
	"slices"
	"strconv"
	"strings"
	"testing"

	"gauntlet/api"
)

// upTo returns the numbers from 0 to n - 1: the partition of n numbers in which each is alone.
func upTo(n int) []int {
	l := make([]int, n)
	for i := range l {
		l[i] = i
	}
	return l
}

// together returns the partition of n numbers in which all are in one block.
func together(n int) []int {
	return make([]int, n)
}

// everyOther returns the partition of n numbers by their remainders.
func everyOther(n, remainders int) []int {
	l := make([]int, n)
	for i := range l {
		l[i] = i % remainders
	}
	return l
}

// numberings returns all lists of n numbers from 0 to n - 1.
func numberings(n, length int) [][]int {
	if length == 0 {
		return [][]int{{}}
	}
	var all [][]int
	for _, l := range numberings(n, length-1) {
		for i := range n {
			all = append(all, append(slices.Clone(l), i))
		}
	}
	return all
}

// ordered tells by the definition whether a list is a partition: the least members of its blocks follow each other as the blocks do.
func ordered(l []int) bool {
	before := -1
	for block := range len(l) {
		least := slices.Index(l, block)
		if least < 0 {
			return !slices.ContainsFunc(l, func(b int) bool { return b >= block })
		}
		if least < before {
			return false
		}
		before = least
	}
	return true
}

// partitions returns all partitions of n numbers.
func partitions(n int) [][]int {
	return slices.DeleteFunc(numberings(n, n), func(l []int) bool { return !ordered(l) })
}

// isFiner tells by the definition whether a partition is finer than another one of as many numbers.
func isFiner(p, q []int) bool {
	for i := range p {
		for k := range p {
			if p[i] == p[k] && q[i] != q[k] {
				return false
			}
		}
	}
	return true
}

// wantPartition fails unless a call returned this partition, in memory of just its length.
func wantPartition(t *testing.T, call string, got []int, e api.Errno, want []int) {
	t.Helper()
	if e != api.OK || !slices.Equal(got, want) {
		t.Errorf("%s: %v, error %d; want %v", call, got, e, want)
	}
	if cap(got) != len(got) {
		t.Errorf("%s: capacity %d of %d numbers", call, cap(got), len(got))
	}
}

// wantError fails unless a call returned this error and no partition.
func wantError(t *testing.T, call string, got []int, e, want api.Errno) {
	t.Helper()
	if e != want || len(got) != 0 {
		t.Errorf("%s: %v, error %d; want error %d", call, got, e, want)
	}
}

// P2.1
func TestCheck(t *testing.T) {
	for _, x := range []struct {
		name string
		p    []int
		want api.Errno
	}{
		{"nil", nil, api.OK},
		{"empty", []int{}, api.OK},
		{"one number", []int{0}, api.OK},
		{"ordinary", []int{0, 1, 0, 2, 1, 2}, api.OK},
		{"all together", together(256), api.OK},
		{"all alone", upTo(256), api.OK},
		{"does not begin with 0", []int{1, 0}, api.ErrArg},
		{"one number that is not 0", []int{1}, api.ErrArg},
		{"leaves out 1", []int{0, 2}, api.ErrArg},
		{"leaves out 1 at first", []int{0, 2, 1}, api.ErrArg},
		{"negative", []int{0, -1}, api.ErrArg},
		{"least number", []int{math.MinInt}, api.ErrArg},
		{"greatest number", []int{0, math.MaxInt}, api.ErrArg},
		{"last number of the longest", append(together(255), 2), api.ErrArg},
		{"too many numbers", together(257), api.ErrLimit},
		{"too many numbers before the blocks", slices.Repeat([]int{-1}, 257), api.ErrLimit},
		{"far too many numbers", upTo(70000), api.ErrLimit},
	} {
		if e := Check(x.p); e != x.want {
			t.Errorf("%s: error %d; want %d", x.name, e, x.want)
		}
	}
}

// P2.1
func TestCheckFollowsTheDefinition(t *testing.T) {
	for n := range 6 {
		for _, l := range numberings(n, n) {
			if valid := Check(l) == api.OK; valid != ordered(l) {
				t.Errorf("Check(%v) = %d", l, Check(l))
			}
		}
	}
	if counts := []int{len(partitions(0)), len(partitions(1)), len(partitions(4)), len(partitions(5))}; !slices.Equal(counts, []int{1, 1, 15, 52}) {
		t.Errorf("partitions of 0, 1, 4 and 5 numbers: %v", counts)
	}
}

// P2.2
func TestOf(t *testing.T) {
	for _, x := range []struct{ l, want []int }{
		{nil, nil},
		{[]int{}, nil},
		{[]int{7, 3, 7, 9}, []int{0, 1, 0, 2}},
		{[]int{math.MaxInt, math.MinInt, -1, math.MinInt, math.MaxInt, 0}, []int{0, 1, 2, 1, 0, 3}},
		{[]int{0, 256, 65536, 1 << 32, 0}, []int{0, 1, 2, 3, 0}},
		{slices.Repeat([]int{5}, 256), together(256)},
		{upTo(256), upTo(256)},
	} {
		p, e := Of(x.l)
		wantPartition(t, "Of", p, e, x.want)
	}
	for _, l := range [][]int{together(257), upTo(300)} {
		p, e := Of(l)
		wantError(t, "Of too many", p, e, api.ErrLimit)
	}
	for _, p := range partitions(5) {
		same, e := Of(p)
		wantPartition(t, "Of a partition", same, e, p)
	}
}

// P2.3
func TestClose(t *testing.T) {
	var chain, backwards, star [][2]int
	for i := 1; i < 256; i++ {
		chain = append(chain, [2]int{i - 1, i})
		backwards = append(backwards, [2]int{256 - i, 255 - i})
		star = append(star, [2]int{i, 255})
	}
	for _, x := range []struct {
		name  string
		n     int
		pairs [][2]int
		want  []int
	}{
		{"no numbers", 0, nil, nil},
		{"no numbers, empty pairs", 0, [][2]int{}, nil},
		{"no pairs", 4, nil, upTo(4)},
		{"all numbers without pairs", 256, nil, upTo(256)},
		{"ordinary", 5, [][2]int{{1, 3}, {3, 4}}, []int{0, 1, 2, 1, 1}},
		{"descending pairs", 5, [][2]int{{4, 3}, {3, 1}}, []int{0, 1, 2, 1, 1}},
		{"a number with itself", 3, [][2]int{{1, 1}}, upTo(3)},
		{"a pair again", 3, [][2]int{{0, 2}, {2, 0}, {0, 2}}, []int{0, 1, 0}},
		{"two blocks become one", 6, [][2]int{{0, 1}, {4, 5}, {2, 3}, {5, 1}}, []int{0, 0, 1, 1, 0, 0}},
		{"least numbers come last", 6, [][2]int{{5, 4}, {4, 3}, {2, 1}, {3, 1}, {1, 0}}, together(6)},
		{"a chain", 256, chain, together(256)},
		{"a chain from its end", 256, backwards, together(256)},
		{"a star", 256, star, append([]int{0}, slices.Repeat([]int{1}, 255)...)},
	} {
		p, e := Close(x.n, x.pairs)
		wantPartition(t, x.name, p, e, x.want)
	}
}

// P2.3
func TestCloseRefuses(t *testing.T) {
	for _, x := range []struct {
		name  string
		n     int
		pairs [][2]int
		want  api.Errno
	}{
		{"too many numbers", 257, nil, api.ErrLimit},
		{"far too many numbers", math.MaxInt, nil, api.ErrLimit},
		{"too many numbers before a pair", 257, [][2]int{{-1, 300}}, api.ErrLimit},
		{"negative", -1, nil, api.ErrArg},
		{"least number", math.MinInt, nil, api.ErrArg},
		{"a pair of no numbers", 0, [][2]int{{0, 0}}, api.ErrArg},
		{"first too great", 3, [][2]int{{3, 0}}, api.ErrArg},
		{"second too great", 3, [][2]int{{0, 3}}, api.ErrArg},
		{"first negative", 3, [][2]int{{-1, 0}}, api.ErrArg},
		{"second negative", 3, [][2]int{{0, -1}}, api.ErrArg},
		{"extreme", 3, [][2]int{{math.MinInt, math.MaxInt}}, api.ErrArg},
		{"a later pair", 3, [][2]int{{0, 1}, {1, 2}, {2, 3}}, api.ErrArg},
	} {
		p, e := Close(x.n, x.pairs)
		wantError(t, x.name, p, e, x.want)
	}
}

// P2.3
func TestCloseIsTheFinest(t *testing.T) {
	const n = 5
	all := partitions(n)
	for pairs := range 1 << 10 {
		var l [][2]int
		bit := 0
		for i := range n {
			for k := range i {
				if pairs>>bit&1 == 1 {
					l = append(l, [2]int{i, k})
				}
				bit++
			}
		}
		got, e := Close(n, l)
		if e != api.OK || Check(got) != api.OK {
			t.Fatalf("Close(%v): %v, error %d", l, got, e)
		}
		for _, p := range all {
			has := !slices.ContainsFunc(l, func(pair [2]int) bool { return p[pair[0]] != p[pair[1]] })
			if has != isFiner(got, p) {
				t.Errorf("Close(%v) = %v, but %v", l, got, p)
			}
		}
	}
}

// P2.4
func TestCountAndBlocks(t *testing.T) {
	for _, x := range []struct {
		p    []int
		want [][]int
	}{
		{nil, nil},
		{[]int{}, nil},
		{[]int{0}, [][]int{{0}}},
		{[]int{0, 1, 0, 2}, [][]int{{0, 2}, {1}, {3}}},
		{[]int{0, 0, 1, 2, 1, 0}, [][]int{{0, 1, 5}, {2, 4}, {3}}},
		{together(256), [][]int{upTo(256)}},
	} {
		blocks, e := Blocks(x.p)
		if e != api.OK || !slices.EqualFunc(blocks, x.want, slices.Equal) {
			t.Errorf("Blocks(%v): %v, error %d", x.p, blocks, e)
		}
		if cap(blocks) != len(blocks) || slices.ContainsFunc(blocks, func(b []int) bool { return cap(b) != len(b) }) {
			t.Errorf("Blocks(%v): more capacity than length", x.p)
		}
		if count, e := Count(x.p); e != api.OK || count != len(x.want) {
			t.Errorf("Count(%v): %d, error %d", x.p, count, e)
		}
	}
	alone, e := Blocks(upTo(256))
	if e != api.OK || len(alone) != 256 || !slices.Equal(alone[255], []int{255}) {
		t.Errorf("Blocks of 256 numbers alone: %v, error %d", alone, e)
	}
	if count, e := Count(upTo(256)); e != api.OK || count != 256 {
		t.Errorf("Count of 256 numbers alone: %d, error %d", count, e)
	}
}

// The errors of a single partition, for all functions that have one.
// P2.4, P2.7
func TestOnePartitionIsChecked(t *testing.T) {
	for _, x := range []struct {
		p    []int
		want api.Errno
	}{
		{[]int{1}, api.ErrArg},
		{[]int{0, 1, 3}, api.ErrArg},
		{[]int{0, -1}, api.ErrArg},
		{together(257), api.ErrLimit},
		{slices.Repeat([]int{-1}, 257), api.ErrLimit},
	} {
		if count, e := Count(x.p); e != x.want || count != 0 {
			t.Errorf("Count: %d, error %d; want error %d", count, e, x.want)
		}
		if blocks, e := Blocks(x.p); e != x.want || len(blocks) != 0 {
			t.Errorf("Blocks: %v, error %d; want error %d", blocks, e, x.want)
		}
		if s, e := Text(x.p); e != x.want || s != "" {
			t.Errorf("Text: %q, error %d; want error %d", s, e, x.want)
		}
	}
}

// P2.5
func TestMeetAndJoin(t *testing.T) {
	for _, x := range []struct{ p, q, meet, join []int }{
		{nil, []int{}, nil, nil},
		{[]int{0}, []int{0}, []int{0}, []int{0}},
		{[]int{0, 0, 1, 1}, []int{0, 1, 1, 1}, []int{0, 1, 2, 2}, together(4)},
		{[]int{0, 1, 0, 2, 2}, []int{0, 1, 2, 3, 3}, []int{0, 1, 2, 3, 3}, []int{0, 1, 0, 2, 2}},
		{[]int{0, 0, 1, 1, 2, 2}, []int{0, 1, 1, 0, 2, 2}, []int{0, 1, 2, 3, 4, 4}, []int{0, 0, 0, 0, 1, 1}},
		{everyOther(256, 16), everyOther(256, 15), append(upTo(240), upTo(16)...), together(256)},
		{everyOther(256, 4), everyOther(256, 6), everyOther(256, 12), everyOther(256, 2)},
		{upTo(256), together(256), upTo(256), together(256)},
	} {
		meet, e := Meet(x.p, x.q)
		wantPartition(t, "Meet", meet, e, x.meet)
		join, e := Join(x.p, x.q)
		wantPartition(t, "Join", join, e, x.join)
	}
}

// P2.5
func TestMeetIsTheCoarsestAndJoinTheFinest(t *testing.T) {
	all := partitions(5)
	for _, p := range all {
		for _, q := range all {
			meet, e := Meet(p, q)
			join, f := Join(p, q)
			if e != api.OK || f != api.OK || Check(meet) != api.OK || Check(join) != api.OK {
				t.Fatalf("%v and %v: %v, error %d; %v, error %d", p, q, meet, e, join, f)
			}
			for _, r := range all {
				if isFiner(r, meet) != (isFiner(r, p) && isFiner(r, q)) {
					t.Errorf("Meet(%v, %v) = %v, but %v", p, q, meet, r)
				}
				if isFiner(join, r) != (isFiner(p, r) && isFiner(q, r)) {
					t.Errorf("Join(%v, %v) = %v, but %v", p, q, join, r)
				}
			}
		}
	}
}

// P2.6
func TestFiner(t *testing.T) {
	for _, x := range []struct {
		p, q []int
		want bool
	}{
		{nil, nil, true},
		{nil, []int{}, true},
		{[]int{0}, []int{0}, true},
		{[]int{0, 1, 2}, []int{0, 0, 1}, true},
		{[]int{0, 0, 1}, []int{0, 1, 2}, false},
		{[]int{0, 0, 1}, []int{0, 1, 1}, false},
		{everyOther(256, 12), everyOther(256, 4), true},
		{everyOther(256, 4), everyOther(256, 12), false},
		{append(upTo(255), 0), append(upTo(255), 254), false},
		{append(upTo(255), 254), upTo(256), false},
		{upTo(256), append(upTo(255), 254), true},
	} {
		if got, e := Finer(x.p, x.q); e != api.OK || got != x.want {
			t.Errorf("Finer(%v, %v) = %v, error %d", x.p, x.q, got, e)
		}
	}
	for n := range 6 {
		for _, p := range partitions(n) {
			for _, q := range partitions(n) {
				if got, e := Finer(p, q); e != api.OK || got != isFiner(p, q) {
					t.Errorf("Finer(%v, %v) = %v, error %d", p, q, got, e)
				}
			}
		}
	}
}

// The errors of two partitions, in their order.
// P2.5, P2.6
func TestTwoPartitionsAreChecked(t *testing.T) {
	good, long, wrong := []int{0, 0}, together(257), []int{1}
	for _, x := range []struct {
		name string
		p, q []int
		want api.Errno
	}{
		{"the first is wrong", wrong, good, api.ErrArg},
		{"the second is wrong", good, wrong, api.ErrArg},
		{"the first is too long", long, good, api.ErrLimit},
		{"the second is too long", good, long, api.ErrLimit},
		{"the first error is that of the first one", wrong, long, api.ErrArg},
		{"the first error is that of the first one, too long", long, wrong, api.ErrLimit},
		{"both are too long", long, long, api.ErrLimit},
		{"the first is shorter", []int{0}, good, api.ErrCount},
		{"the second is shorter", good, []int{0}, api.ErrCount},
		{"the first is empty", nil, good, api.ErrCount},
		{"the second is empty", good, nil, api.ErrCount},
		{"wrong before the count", []int{0, 2, 1}, good, api.ErrArg},
		{"second wrong before the count", good, []int{0, 2, 1}, api.ErrArg},
	} {
		meet, e := Meet(x.p, x.q)
		wantError(t, "Meet: "+x.name, meet, e, x.want)
		join, e := Join(x.p, x.q)
		wantError(t, "Join: "+x.name, join, e, x.want)
		if finer, e := Finer(x.p, x.q); e != x.want || finer {
			t.Errorf("Finer: %s: %v, error %d; want error %d", x.name, finer, e, x.want)
		}
	}
}

// longText returns the numbers from 0 to n - 1 with something between them.
func longText(n int, between string) string {
	parts := make([]string, n)
	for i := range parts {
		parts[i] = strconv.Itoa(i)
	}
	return strings.Join(parts, between)
}

// P2.7
func TestTextAndParse(t *testing.T) {
	for _, x := range []struct {
		p []int
		s string
	}{
		{nil, "-"},
		{[]int{}, "-"},
		{[]int{0}, "0"},
		{[]int{0, 0}, "0 1"},
		{[]int{0, 1}, "0 | 1"},
		{[]int{0, 1, 0}, "0 2 | 1"},
		{[]int{0, 1, 0, 2}, "0 2 | 1 | 3"},
		{[]int{0, 1, 2, 1, 0, 2, 0, 0, 0, 0, 1}, "0 4 6 7 8 9 | 1 3 10 | 2 5"},
		{together(256), longText(256, " ")},
		{upTo(256), longText(256, " | ")},
	} {
		if s, e := Text(x.p); e != api.OK || s != x.s {
			t.Errorf("Text(%v) = %q, error %d", x.p, s, e)
		}
		p, e := Parse(x.s)
		wantPartition(t, x.s, p, e, x.p)
	}
}

// P2.7
func TestParseRefuses(t *testing.T) {
	for _, s := range []string{
		"", " ", "  ", "|", " | ", "||", "|||||", " | | ", " |  | ", "--", "- ", "- | 0", "0 | -", "-0", "-1", "x", "\xff",
		"1", "0 2", "1 0", "0 0", "0 | 0", "0 1 | 1", "0 1 | 0", "1 | 0", "1 | 0 2", "0 2 1", "0 2 | 1 2", "0 | 2 | 1", "0 | 2", "0 | 1 3",
		"0 ", " 0", "0  1", "0 |", "| 0", "0 | ", " | 0", "0| 1", "0 |1", "0|1", "0  | 1", "0 |  1", "0 | | 1", "0 |  | 1", "0 || 1",
		"00", "0 01", "+0", "0 +1", "0 -1", "0 1_", "0 0x1", "0 1.0", "0\t1", "0\n", "0 \u0661", "0,1", "0 1\x00",
		"0 9223372036854775807", "0 9223372036854775808", "0 18446744073709551616", "0 99999999999999999999999", "0 -9223372036854775808", "0 -99999999999999999999999", "-99999999999999999999999",
		longText(257, " "), longText(257, " | "), longText(5000, " "), strings.Repeat("0 ", 32767) + "0", strings.Repeat("x", 65536), strings.Repeat(" ", 65536), strings.Repeat("|", 65536),
	} {
		p, e := Parse(s)
		wantError(t, strconv.Quote(s[:min(len(s), 50)]), p, e, api.ErrForm)
	}
	for _, s := range []string{strings.Repeat("x", 65537), strings.Repeat("0 ", 32768) + "0", strings.Repeat(" ", 100000), "-" + strings.Repeat(" ", 65536)} {
		p, e := Parse(s)
		wantError(t, "too long", p, e, api.ErrLimit)
	}
}

// P2.7
func TestParseReadsJustWhatIsWritten(t *testing.T) {
	written := map[string][]int{}
	for n := range 6 {
		for _, p := range partitions(n) {
			s, e := Text(p)
			if e != api.OK || written[s] != nil {
				t.Fatalf("Text(%v) = %q, error %d", p, s, e)
			}
			written[s] = p
		}
	}
	// All texts of some bytes that texts are made of.
	texts := []string{""}
	for range 6 {
		for _, s := range texts {
			if p, e := Parse(s); (e == api.OK) != (written[s] != nil) || !slices.Equal(p, written[s]) {
				t.Errorf("Parse(%q): %v, error %d", s, p, e)
			}
		}
		var longer []string
		for _, s := range texts {
			for _, more := range []string{"0", "1", "2", " ", "|", "-"} {
				longer = append(longer, s+more)
			}
		}
		texts = longer
	}
	for s, p := range written {
		got, e := Parse(s)
		wantPartition(t, s, got, e, p)
	}
}

// lattice returns Meet and Join of partitions that have no errors.
func lattice(t *testing.T) (meet, join func(p, q []int) []int) {
	checked := func(f func(p, q []int) ([]int, api.Errno)) func(p, q []int) []int {
		return func(p, q []int) []int {
			r, e := f(p, q)
			if e != api.OK {
				t.Fatalf("%v and %v: error %d", p, q, e)
			}
			return r
		}
	}
	return checked(Meet), checked(Join)
}

// P2.8
func TestPartitionsAreALattice(t *testing.T) {
	meet, join := lattice(t)
	for n := range 6 {
		all := partitions(n)
		for _, p := range all {
			for _, q := range all {
				m, j := meet(p, q), join(p, q)
				if !slices.Equal(m, meet(q, p)) || !slices.Equal(j, join(q, p)) {
					t.Errorf("%v and %v: the order matters", p, q)
				}
				if !slices.Equal(meet(p, j), p) || !slices.Equal(join(p, m), p) {
					t.Errorf("%v and %v: absorption", p, q)
				}
				if finer, e := Finer(p, q); e != api.OK || finer != slices.Equal(m, p) {
					t.Errorf("Finer(%v, %v) = %v, error %d, and the meet is %v", p, q, finer, e, m)
				}
				a, _ := Count(p)
				b, _ := Count(q)
				least, _ := Count(m)
				most, _ := Count(j)
				if least < max(a, b) || most > min(a, b) {
					t.Errorf("%v and %v: %d blocks of the meet, %d of the join", p, q, least, most)
				}
			}
		}
	}
}

// P2.8
func TestMeetAndJoinAreAssociative(t *testing.T) {
	meet, join := lattice(t)
	all := partitions(4)
	for _, p := range all {
		for _, q := range all {
			for _, r := range all {
				if !slices.Equal(meet(meet(p, q), r), meet(p, meet(q, r))) || !slices.Equal(join(join(p, q), r), join(p, join(q, r))) {
					t.Errorf("%v, %v and %v: not associative", p, q, r)
				}
			}
		}
	}
}

// Rules R1 and R4: arguments stay as they are, and results share memory neither with them nor with each other.
func TestArgumentsAreNeitherChangedNorShared(t *testing.T) {
	p := append(make([]int, 0, 8), 0, 1, 0)
	q := append(make([]int, 0, 8), 0, 1, 2)
	pairs := append(make([][2]int, 0, 8), [2]int{2, 1})
	of, _ := Of(p)
	closed, _ := Close(3, pairs)
	meet, _ := Meet(p, q)
	join, _ := Join(p, q)
	self, _ := Meet(q, q)
	one, _ := Blocks(p)
	two, _ := Blocks(p)
	Check(p)
	Count(p)
	Finer(p, q)
	Text(p)
	for _, result := range append([][]int{of, closed, meet, join, self}, one...) {
		for i := range result {
			result[i] = 99
		}
	}
	if !slices.Equal(p[:8], []int{0, 1, 0, 0, 0, 0, 0, 0}) || !slices.Equal(q[:8], []int{0, 1, 2, 0, 0, 0, 0, 0}) || pairs[0] != [2]int{2, 1} || pairs[:2][1] != [2]int{} {
		t.Errorf("changed: %v, %v, %v", p[:8], q[:8], pairs[:2])
	}
	if !slices.EqualFunc(two, [][]int{{0, 2}, {1}}, slices.Equal) {
		t.Errorf("blocks share their memory: %v", two)
	}
}
