package match_test

import (
	"math"
	"math/rand"
	"regexp"
	"slices"
	"strings"
	"testing"
	"time"

	"linhay/api"
	"linhay/class"
	"linhay/match"
	"linhay/pattern"
	"linhay/prog"
)

// zeros is the set without bytes.
var zeros = strings.Repeat("0", 256)

// Steps of each kind.
func char(s string, x int) api.Inst { return api.Inst{Kind: api.IChar, Text: s, X: x} }
func any1(x int) api.Inst           { return api.Inst{Kind: api.IAny, X: x} }
func set(s string, x int) api.Inst  { return api.Inst{Kind: api.ISet, Text: s, X: x} }
func begin(x int) api.Inst          { return api.Inst{Kind: api.IBegin, X: x} }
func end(x int) api.Inst            { return api.Inst{Kind: api.IEnd, X: x} }
func split(x, y int) api.Inst       { return api.Inst{Kind: api.ISplit, X: x, Y: y} }
func jump(x int) api.Inst           { return api.Inst{Kind: api.IJump, X: x} }
func stop() api.Inst                { return api.Inst{Kind: api.IMatch} }

// of answers the program of a pattern that has one.
func of(t *testing.T, s string) []api.Inst {
	t.Helper()
	l, e := prog.Of(s)
	if e != api.OK {
		t.Fatalf("%.200q has no program: %v", s, e)
	}
	return l
}

// slowEnds answers where a program ends, as the chapter tells it: it goes on from each step at each place once.
func slowEnds(l []api.Inst, s string, from int) []int {
	if !prog.Right(l) || from < 0 || from > len(s) {
		return nil
	}
	seen := map[[2]int]bool{}
	ends := map[int]bool{}
	var on func(i, at int)
	on = func(i, at int) {
		if seen[[2]int{i, at}] {
			return
		}
		seen[[2]int{i, at}] = true
		x := l[i]
		switch x.Kind {
		case api.ISplit:
			on(x.X, at)
			on(x.Y, at)
		case api.IJump:
			on(x.X, at)
		case api.IBegin:
			if at == 0 {
				on(x.X, at)
			}
		case api.IEnd:
			if at == len(s) {
				on(x.X, at)
			}
		case api.IMatch:
			ends[at] = true
		default:
			if at < len(s) && (x.Kind == api.IChar && x.Text == s[at:at+1] || x.Kind == api.IAny && s[at] != 10 || x.Kind == api.ISet && x.Text[s[at]] == '1') {
				on(x.X, at+1)
			}
		}
	}
	on(0, from)
	var out []int
	for at := range len(s) + 1 {
		if ends[at] {
			out = append(out, at)
		}
	}
	return out
}

// slowFirst tries each place as the one that a program is begun at.
func slowFirst(l []api.Inst, s string) (int, int, bool) {
	for from := range len(s) + 1 {
		if ends := slowEnds(l, s, from); len(ends) > 0 {
			return from, ends[len(ends)-1], true
		}
	}
	return 0, 0, false
}

// isMatched holds all that is asked of a program and a text against the slow answers.
func isMatched(t *testing.T, l []api.Inst, s string) {
	t.Helper()
	for from := -1; from <= len(s)+1; from++ {
		if got, want := match.Ends(l, s, from), slowEnds(l, s, from); !slices.Equal(got, want) {
			t.Fatalf("Ends(%.500v, %.200q, %d) = %v; want %v", l, s, from, got, want)
		}
	}
	from, to, ok := slowFirst(l, s)
	if a, b, got := match.First(l, s); a != from || b != to || got != ok {
		t.Fatalf("First(%.500v, %.200q) = %d, %d, %v; want %d, %d, %v", l, s, a, b, got, from, to, ok)
	}
	if got := match.Search(l, s); got != ok {
		t.Fatalf("Search(%.500v, %.200q) = %v", l, s, got)
	}
	if got, want := match.Whole(l, s), slices.Contains(slowEnds(l, s, 0), len(s)); got != want {
		t.Fatalf("Whole(%.500v, %.200q) = %v", l, s, got)
	}
}

// eachText calls a function with each text of at most n of some signs.
func eachText(signs string, n int, do func(s string)) {
	do("")
	if n == 0 {
		return
	}
	for i := range len(signs) {
		eachText(signs, n-1, func(s string) { do(signs[i:i+1] + s) })
	}
}

// soon calls a function that must end at once: what goes back, or counts again, would go on for hours.
func soon(t *testing.T, what string, do func()) {
	t.Helper()
	done := make(chan struct{})
	go func() {
		defer close(done)
		do()
	}()
	select {
	case <-done:
	case <-time.After(2 * time.Minute):
		t.Fatalf("%s takes too long", what)
	}
}

// P16.1: where programs of patterns end.
func TestEnds(t *testing.T) {
	for _, c := range []struct {
		pattern, s string
		from       int
		want       []int
	}{
		{"a|b*", "bba", 0, []int{0, 1, 2}},
		{"a|b*", "bba", 1, []int{1, 2}},
		{"a|b*", "bba", 2, []int{2, 3}},
		{"a|b*", "bba", 3, []int{3}},
		{"a|b*", "bba", 4, nil},
		{"a|b*", "bba", -1, nil},
		{"a|b*", "bba", math.MaxInt, nil},
		{"a|b*", "bba", math.MinInt, nil},
		{"", "", 0, []int{0}},
		{"", "", 1, nil},
		{"", "", -1, nil},
		{"", "ab", 0, []int{0}},
		{"", "ab", 2, []int{2}},
		{"a", "", 0, nil},
		{"a", "aa", 0, []int{1}},
		{"a", "aa", 1, []int{2}},
		{"a", "aa", 2, nil},
		{"ab", "aab", 0, nil},
		{"ab", "aab", 1, []int{3}},
		{"a|ab|abc", "abcd", 0, []int{1, 2, 3}},
		{"abc|a|ab", "abcd", 0, []int{1, 2, 3}},
		{"a|a|a", "a", 0, []int{1}},
		{"(a|ab)(c|bcd)", "abcd", 0, []int{3, 4}},
		{"a*", "aab", 0, []int{0, 1, 2}},
		{"a+", "aab", 0, []int{1, 2}},
		{"a?", "aab", 0, []int{0, 1}},
		{"a{2}", "aaaa", 0, []int{2}},
		{"a{2,}", "aaaa", 1, []int{3, 4}},
		{"a{1,3}", "aaaaa", 1, []int{2, 3, 4}},
		{"a{0}", "aa", 1, []int{1}},
		{"(a*)*", "aab", 0, []int{0, 1, 2}},
		{"(a*)+b", "aab", 0, []int{3}},
		{"(a|b*)*", "abba", 0, []int{0, 1, 2, 3, 4}},
		{"()*", "a", 0, []int{0}},
		{"(a|)+", "ab", 0, []int{0, 1}},
		{"^", "ab", 0, []int{0}},
		{"^", "ab", 1, nil},
		{"^^a", "ab", 0, []int{1}},
		{"a^", "ab", 0, nil},
		{"a*^b", "b", 0, []int{1}},
		{"(^a|b)*", "aba", 0, []int{0, 1, 2}},
		{"$", "ab", 0, nil},
		{"$", "ab", 1, nil},
		{"$", "ab", 2, []int{2}},
		{"^$", "", 0, []int{0}},
		{"$^", "", 0, []int{0}},
		{"^$", "a", 0, nil},
		{"b$", "bb", 0, nil},
		{"b$", "bb", 1, []int{2}},
		{"$b", "b", 0, nil},
		{"a$|a", "aa", 0, []int{1}},
		{"a*$", "aa", 0, []int{2}},
		{"b$", "b\n", 0, nil},
		{"^b", "\nb", 1, nil},
		{".", "\n", 0, nil},
		{".*", "ab\nc", 0, []int{0, 1, 2}},
		{".*", "ab\nc", 3, []int{3, 4}},
		{"\n", "\n", 0, []int{1}},
		{"[^a]*", "b\na", 0, []int{0, 1, 2}},
		{`\s*`, " \n\ta", 0, []int{0, 1, 2, 3}},
		{"[a-c]+", "cabd", 0, []int{1, 2, 3}},
		{"..", "\u00e9", 0, []int{2}},
		{".", "\xff\x00", 1, []int{2}},
		{`\w+-\d{1,2}`, "ab_1-234", 0, []int{6, 7}},
	} {
		l := of(t, c.pattern)
		if got := match.Ends(l, c.s, c.from); !slices.Equal(got, c.want) {
			t.Errorf("Ends of %q in %q from %d = %v; want %v", c.pattern, c.s, c.from, got, c.want)
		}
		isMatched(t, l, c.s)
	}
}

// P16.1: programs that no pattern has: with rings, with several IMatch or none, with steps ahead.
func TestEndsOfPrograms(t *testing.T) {
	a, b := class.One('a'), class.One('b')
	for i, c := range []struct {
		l    []api.Inst
		s    string
		from int
		want []int
	}{
		{[]api.Inst{stop()}, "aa", 1, []int{1}},
		{[]api.Inst{stop(), stop()}, "aa", 0, []int{0}},
		{[]api.Inst{split(1, 2), stop(), stop()}, "a", 0, []int{0}},
		{[]api.Inst{split(1, 2), stop(), char("a", 1)}, "aa", 0, []int{0, 1}},
		{[]api.Inst{split(1, 2), char("a", 3), char("a", 4), stop(), stop()}, "aa", 0, []int{1}},
		{[]api.Inst{split(2, 1), stop(), char("a", 0)}, "aaa", 1, []int{1, 2, 3}},
		{[]api.Inst{jump(0)}, "a", 0, nil},
		{[]api.Inst{jump(1), jump(0), stop()}, "a", 0, nil},
		{[]api.Inst{split(0, 0)}, "a", 0, nil},
		{[]api.Inst{split(0, 1), stop()}, "a", 0, []int{0}},
		{[]api.Inst{split(1, 0), stop()}, "a", 1, []int{1}},
		{[]api.Inst{jump(2), stop(), any1(1)}, "aa", 0, []int{1}},
		{[]api.Inst{char("a", 0)}, "aaa", 0, nil},
		{[]api.Inst{any1(0), stop()}, "aaa", 0, nil},
		{[]api.Inst{begin(0)}, "", 0, nil},
		{[]api.Inst{end(0), stop()}, "", 0, nil},
		{[]api.Inst{begin(1), stop()}, "a", 0, []int{0}},
		{[]api.Inst{begin(1), stop()}, "a", 1, nil},
		{[]api.Inst{end(1), stop()}, "a", 0, nil},
		{[]api.Inst{end(1), stop()}, "a", 1, []int{1}},
		{[]api.Inst{split(1, 2), begin(3), end(3), stop()}, "ab", 2, []int{2}},
		{[]api.Inst{split(1, 2), begin(3), end(3), stop()}, "ab", 1, nil},
		{[]api.Inst{set(a, 1), set(b, 2), stop()}, "ab", 0, []int{2}},
		{[]api.Inst{set(b, 1), set(a, 2), stop()}, "ab", 0, nil},
		{[]api.Inst{set(zeros, 1), stop()}, "ab", 0, nil},
		{[]api.Inst{set(class.Not(zeros), 1), stop()}, "\n", 0, []int{1}},
		{[]api.Inst{split(1, 3), char("a", 2), jump(0), stop()}, "aab", 0, []int{0, 1, 2}},
	} {
		if got := match.Ends(c.l, c.s, c.from); !slices.Equal(got, c.want) {
			t.Errorf("%d: Ends(%v, %q, %d) = %v; want %v", i, c.l, c.s, c.from, got, c.want)
		}
		isMatched(t, c.l, c.s)
	}
}

// P16.1, P16.2: a program that isn't Right ends nowhere, also where it would never come to what isn't.
func TestNotRight(t *testing.T) {
	for i, l := range [][]api.Inst{
		nil,
		{},
		{{}},
		{{}, stop()},
		{stop(), {}},
		{stop(), {Kind: 9}},
		{stop(), {Kind: -1}},
		{stop(), jump(-1)},
		{stop(), jump(2)},
		{stop(), split(0, 2)},
		{stop(), split(math.MinInt, math.MaxInt)},
		{stop(), {Kind: api.IChar}},
		{stop(), char("ab", 0)},
		{stop(), set("", 0)},
		{stop(), set(zeros+"0", 0)},
		{stop(), set(zeros[1:]+"2", 0)},
		{stop(), {Kind: api.IMatch, X: 1}},
		{stop(), {Kind: api.IMatch, Text: "a"}},
		{stop(), {Kind: api.IAny, Y: 1}},
		{jump(1)},
		{any1(math.MaxInt), stop()},
		{char("", 1), stop()},
		{set("1", 1), stop()},
	} {
		for _, s := range []string{"", "a", "ab\n"} {
			if prog.Right(l) {
				t.Fatalf("%d is right", i)
			}
			for from := -2; from < 5; from++ {
				if got := match.Ends(l, s, from); len(got) != 0 {
					t.Errorf("%d: Ends of %q from %d = %v", i, s, from, got)
				}
			}
			from, to, ok := match.First(l, s)
			if from != 0 || to != 0 || ok || match.Search(l, s) || match.Whole(l, s) {
				t.Errorf("%d in %q: %d %d %v", i, s, from, to, ok)
			}
		}
	}
}

// P16.1: each step that asks for a byte, with each byte.
func TestBytes(t *testing.T) {
	for c := range 256 {
		b := string([]byte{byte(c)})
		others := class.Not(class.One(byte(c)))
		for d := range 256 {
			s := "x" + string([]byte{byte(d)}) + "x"
			for _, w := range []struct {
				x    api.Inst
				want bool
			}{
				{char(b, 1), c == d},
				{any1(1), d != 10},
				{set(class.One(byte(c)), 1), c == d},
				{set(others, 1), c != d},
			} {
				got := match.Ends([]api.Inst{w.x, stop()}, s, 1)
				if w.want && !slices.Equal(got, []int{2}) || !w.want && len(got) != 0 {
					t.Fatalf("step of kind %d, of byte %d, at byte %d: %v", w.x.Kind, c, d, got)
				}
			}
		}
	}
}

// P16.2: where programs are begun and end, and what they take whole.
func TestSearch(t *testing.T) {
	for _, c := range []struct {
		pattern, s string
		from, to   int
		ok, whole  bool
	}{
		{"", "", 0, 0, true, true},
		{"", "ab", 0, 0, true, false},
		{"a", "", 0, 0, false, false},
		{"a", "bab", 1, 2, true, false},
		{"b", "bab", 0, 1, true, false},
		{"b*", "abb", 0, 0, true, false},
		{"b+", "abbab", 1, 3, true, false},
		{"x", "abc", 0, 0, false, false},
		{"c|abc", "abcabc", 0, 3, true, false},
		{"a|ab|abc", "xabc", 1, 4, true, false},
		{"abc|ab|a", "abd", 0, 2, true, false},
		{"bcd|abcde|c", "abcdx", 1, 4, true, false},
		{"c|abcx", "abcd", 2, 3, true, false},
		{"b|abcd", "abcd", 0, 4, true, true},
		{"b|abcd|cde", "abcde", 0, 4, true, false},
		{"cde|b|ab", "xabcde", 1, 3, true, false},
		{"a*b", "aaac", 0, 0, false, false},
		{"a*b", "aaacab", 4, 6, true, false},
		{"^a", "ba", 0, 0, false, false},
		{"^a", "aa", 0, 1, true, false},
		{"a$", "aa", 1, 2, true, false},
		{"$", "aa", 2, 2, true, false},
		{"$", "", 0, 0, true, true},
		{"^", "aa", 0, 0, true, false},
		{"^$", "a", 0, 0, false, false},
		{"a$", "a\n", 0, 0, false, false},
		{"^a.*c$", "abbc", 0, 4, true, true},
		{"^a.*c$", "ab\nc", 0, 0, false, false},
		{".*", "ab\nc", 0, 2, true, false},
		{".+~", "a~~", 0, 3, true, true},
		{"(RCS|CVS)", "CVS", 0, 3, true, true},
		{"(^|/)a(/|$)", "b/a", 1, 3, true, false},
		{"(a*)*b|c", "aaaac", 4, 5, true, false},
	} {
		l := of(t, c.pattern)
		from, to, ok := match.First(l, c.s)
		if from != c.from || to != c.to || ok != c.ok {
			t.Errorf("First of %q in %q = %d, %d, %v", c.pattern, c.s, from, to, ok)
		}
		if got := match.Search(l, c.s); got != c.ok {
			t.Errorf("Search of %q in %q = %v", c.pattern, c.s, got)
		}
		if got := match.Whole(l, c.s); got != c.whole {
			t.Errorf("Whole of %q in %q = %v", c.pattern, c.s, got)
		}
		isMatched(t, l, c.s)
	}
}

// P16.3: patterns in texts, and those that are none.
func TestIs(t *testing.T) {
	long := strings.Repeat("a", 4001)
	for _, c := range []struct {
		pattern, s string
		want       bool
		e          api.Errno
	}{
		{"", "", true, api.OK},
		{"", "a", true, api.OK},
		{"b", "abc", true, api.OK},
		{"^b", "abc", false, api.OK},
		{"b$", "abc", false, api.OK},
		{"^abc$", "abc", true, api.OK},
		{"x|c", "abc", true, api.OK},
		{"[^a-c]", "abc", false, api.OK},
		{`\.git`, "a.git", true, api.OK},
		{`\.git`, "agit", false, api.OK},
		{long[1:], long, true, api.OK},
		{long[1:], long[2:], false, api.OK},
		{"a(", "a", false, api.ErrForm},
		{"a)", "a", false, api.ErrForm},
		{"*", "*", false, api.ErrForm},
		{`\`, `\`, false, api.ErrForm},
		{"[", "[", false, api.ErrForm},
		{"a|{", "a", false, api.ErrForm},
		{"a|[b-a]", "a", false, api.ErrRange},
		{"a{101}", "a", false, api.ErrRange},
		{"|a{2,1}", "", false, api.ErrRange},
		{long, long, false, api.ErrMany},
		{"|" + long, "", false, api.ErrMany},
		{"|(a{100}){41}", "", false, api.ErrMany},
		{strings.Repeat("(", 65) + strings.Repeat(")", 65), "", false, api.ErrMany},
	} {
		if got, e := match.Is(c.pattern, c.s); got != c.want || e != c.e {
			t.Errorf("Is(%.50q, %.50q) = %v, %v", c.pattern, c.s, got, e)
		}
	}
	eachText("ab|()*^", 4, func(p string) {
		l, want := prog.Of(p)
		eachText("ab", 2, func(s string) {
			if got, e := match.Is(p, s); e != want || got != match.Search(l, s) {
				t.Fatalf("Is(%q, %q) = %v, %v; want %v", p, s, got, e, want)
			}
		})
	})
}

// P16.2: where a program comes to several IMatch at one place, begun at several ones, the least one holds, also if it comes there over more steps than others do.
func TestFirstOfSeveral(t *testing.T) {
	for i, c := range []struct {
		l        []api.Inst
		s        string
		from, to int
	}{
		{[]api.Inst{split(1, 3), char("a", 2), char("b", 4), char("b", 5), stop(), stop()}, "ab", 0, 2},
		{[]api.Inst{split(3, 1), char("a", 2), char("b", 4), char("b", 5), stop(), stop()}, "ab", 0, 2},
		{[]api.Inst{split(1, 3), char("a", 2), char("b", 4), char("b", 4), stop()}, "xxab", 2, 4},
		{[]api.Inst{split(1, 3), char("a", 2), char("b", 4), char("b", 7), jump(5), jump(6), jump(7), any1(8), stop()}, "abx", 0, 3},
		{[]api.Inst{split(1, 4), any1(2), any1(3), jump(5), any1(6), jump(6), split(7, 8), stop(), any1(6)}, "abcd", 0, 4},
		{[]api.Inst{split(1, 5), char("a", 2), char("b", 3), char("c", 4), stop(), split(6, 8), char("b", 7), stop(), char("c", 9), stop()}, "abc", 0, 3},
		{[]api.Inst{split(1, 5), char("a", 2), char("b", 3), char("c", 4), stop(), split(6, 8), char("b", 7), stop(), char("c", 9), stop()}, "abd", 1, 2},
		{[]api.Inst{split(1, 4), char("a", 2), char("b", 3), char("c", 7), split(5, 6), char("b", 7), char("b", 8), char("d", 9), stop(), stop()}, "abcd", 0, 4},
	} {
		if from, to, ok := match.First(c.l, c.s); from != c.from || to != c.to || !ok {
			t.Errorf("%d: First in %q = %d, %d, %v; want %d, %d", i, c.s, from, to, ok, c.from, c.to)
		}
		isMatched(t, c.l, c.s)
	}
}

// stepsOf answers all steps that a program of n steps may have, of some texts.
func stepsOf(n int) []api.Inst {
	out := []api.Inst{stop()}
	for x := range n {
		out = append(out, char("a", x), any1(x), set(class.One('b'), x), begin(x), end(x), jump(x))
		for y := range n {
			out = append(out, split(x, y))
		}
	}
	return out
}

// eachProgram calls a function with each program of n steps.
func eachProgram(n int, do func(l []api.Inst)) {
	steps := stepsOf(n)
	l := make([]api.Inst, n)
	var lay func(i int)
	lay = func(i int) {
		if i == n {
			do(l)
			return
		}
		for _, x := range steps {
			l[i] = x
			lay(i + 1)
		}
	}
	lay(0)
}

// P16.1, P16.2: all short programs, over short texts.
func TestShortPrograms(t *testing.T) {
	for n := 1; n <= 3; n++ {
		texts := []string{"\n", "a\n", "\nb"}
		eachText("ab", 3, func(s string) { texts = append(texts, s) })
		eachProgram(n, func(l []api.Inst) {
			for _, s := range texts {
				isMatched(t, l, s)
			}
		})
	}
}

// chanceProgram answers a program in which some step ends.
func chanceProgram(chance *rand.Rand, most int) []api.Inst {
	l := make([]api.Inst, 1+chance.Intn(most))
	for i := range l {
		l[i] = chanceStep(chance, len(l))
	}
	l[chance.Intn(len(l))] = stop()
	return l
}

// chanceStep answers a step of a program of n steps.
func chanceStep(chance *rand.Rand, n int) api.Inst {
	x, y := chance.Intn(n), chance.Intn(n)
	switch chance.Intn(12) {
	case 0:
		return stop()
	case 1:
		return begin(x)
	case 2:
		return end(x)
	case 3:
		return jump(x)
	case 4, 5, 6:
		return split(x, y)
	case 7:
		return any1(x)
	case 8:
		return set(class.Span(byte('a'+chance.Intn(3)), byte('a'+chance.Intn(3))), x)
	}
	return char(string([]byte{byte('a' + chance.Intn(3))}), x)
}

// chanceText answers a text of few signs.
func chanceText(chance *rand.Rand, most int) string {
	b := make([]byte, chance.Intn(most+1))
	for i := range b {
		b[i] = "aaabbc\n"[chance.Intn(7)]
	}
	return string(b)
}

// P16.1, P16.2: programs by chance, in which steps are come to from several places that they were begun at.
func TestChance(t *testing.T) {
	chance := rand.New(rand.NewSource(16))
	found, later, longer := 0, 0, 0
	for range 60000 {
		l := chanceProgram(chance, 16)
		s := chanceText(chance, 12)
		isMatched(t, l, s)
		if from, to, ok := match.First(l, s); ok {
			found++
			if from > 0 {
				later++
			}
			if to > from+1 {
				longer++
			}
		}
	}
	if found < 3000 || later < 300 || longer < 300 {
		t.Errorf("only %d ended, %d of them begun behind 0, %d longer than a byte", found, later, longer)
	}
}

// places is a set of places of a short text: a bit for each.
type places uint64

// pieceEnds answers where a piece ends that is begun at some places, as its pattern says, without a program.
func pieceEnds(p api.Piece, s string, from places) places {
	switch p.Kind {
	case api.PEmpty:
		return from
	case api.PBegin:
		return from & 1
	case api.PEnd:
		return from & (1 << len(s))
	case api.PSeq:
		for _, k := range p.Kids {
			from = pieceEnds(k, s, from)
		}
		return from
	case api.PAlt:
		var out places
		for _, k := range p.Kids {
			out |= pieceEnds(k, s, from)
		}
		return out
	case api.PRepeat:
		return repeatEnds(p, s, from)
	}
	var out places
	for i := range len(s) {
		if from&(1<<i) != 0 && (p.Kind == api.PChar && p.Text == s[i:i+1] || p.Kind == api.PAny && s[i] != '\n' || p.Kind == api.PSet && class.Has(p.Text, s[i])) {
			out |= 1 << (i + 1)
		}
	}
	return out
}

// repeatEnds answers where a Kid ends that is there so often.
func repeatEnds(p api.Piece, s string, from places) places {
	for range p.Least {
		from = pieceEnds(p.Kids[0], s, from)
	}
	out, more := from, p.Top-p.Least
	if p.Top == -1 {
		// As often as there are places is as good as for ever.
		more = len(s) + 1
	}
	for range more {
		from = pieceEnds(p.Kids[0], s, from)
		out |= from
	}
	return out
}

// endsAsPiece holds where a pattern's program ends against where its piece does.
func endsAsPiece(t *testing.T, p, s string) {
	t.Helper()
	piece, _, e := pattern.Parse(p)
	l, f := prog.Of(p)
	if e != f {
		t.Fatalf("%q: %v, %v", p, e, f)
	}
	if e != api.OK {
		return
	}
	for from := range len(s) + 1 {
		var got places
		for _, at := range match.Ends(l, s, from) {
			got |= 1 << at
		}
		if want := pieceEnds(piece, s, 1<<from); got != want {
			t.Fatalf("%q in %q from %d ends at %b; want %b", p, s, from, got, want)
		}
	}
}

// P16.4: all short patterns, and longer ones, end where they say.
func TestPatterns(t *testing.T) {
	eachText("ab|()*", 5, func(p string) {
		eachText("ab", 3, func(s string) { endsAsPiece(t, p, s) })
	})
	eachText("a.^$|()?+", 4, func(p string) {
		eachText("ab\n", 2, func(s string) { endsAsPiece(t, p, s) })
	})
	for _, p := range []string{"(a|b){2}", "(a*b){2,3}", "((a|b)b?){2,}", "(a?){3}b", "(^a|b$)+", "(|a|(b|a.)+)*b", `(\w\W){0,1}a*`, "(a{2}){1,2}", "(a{2}|b{3}){2,}", "(aa|aab|ba)*", "[^a]*b?", "((a?b?){2}){2}", "(a{0,2}b){0,2}$", "(){3}a", "(^){2}a($){2}", ".{3,}", "(ab|a)(b|ba)?a{0}"} {
		eachText("ab\n", 5, func(s string) { endsAsPiece(t, p, s) })
	}
}

// P16.2, P16.4: the least place, and the greatest one from there, are those that Go's library tells of the same pattern.
func TestAsLibrary(t *testing.T) {
	isAs := func(p string) {
		l, e := prog.Of(p)
		if e != api.OK {
			return
		}
		whole, first := regexp.MustCompile(`\A(?:`+p+`)\z`), regexp.MustCompile(p)
		first.Longest()
		eachText("ab\n", 3, func(s string) {
			if got := match.Whole(l, s); got != whole.MatchString(s) {
				t.Fatalf("Whole of %q in %q = %v", p, s, got)
			}
			want := first.FindStringIndex(s)
			from, to, ok := match.First(l, s)
			if ok != (want != nil) || ok && (from != want[0] || to != want[1]) {
				t.Fatalf("First of %q in %q = %d, %d, %v; want %v", p, s, from, to, ok, want)
			}
			if match.Search(l, s) != ok {
				t.Fatalf("Search of %q in %q = %v", p, s, !ok)
			}
		})
	}
	eachText("ab|()*", 5, isAs)
	eachText("a.|?^$", 4, isAs)
	for _, p := range []string{"[^a]*b", `\s?a{2,}|\Sb{0,1}`, "a(a|b){2}|b", "(a*b){2,3}", "(^a|b$)+", "b|ab|aab", "(|a|(b|a.)+)*b"} {
		isAs(p)
	}
}

// P16.1: what a long program, or nested stars, would do for ever by going back is done at once.
func TestNoWayBack(t *testing.T) {
	a := strings.Repeat("a", 1000)
	for _, p := range []string{"(a*)*b", "(a*)*(a*)*(a*)*b", "((a|a)*)*b", "(a?){100}(a?){100}(a{0,100}){5}b", strings.Repeat("(", 60) + "a" + strings.Repeat("*)", 60) + "*b", "(.*){20}b", "(a|aa|aaa)*b"} {
		l := of(t, p)
		soon(t, p, func() {
			if from, to, ok := match.First(l, a); from != 0 || to != 0 || ok || match.Search(l, a) || match.Whole(l, a) || len(match.Ends(l, a, 0)) != 0 {
				t.Errorf("%.50q in a thousand a: %d, %d, %v", p, from, to, ok)
			}
			if ok, e := match.Is(p, a+"b"); !ok || e != api.OK {
				t.Errorf("%.50q in a thousand a and b: %v, %v", p, ok, e)
			}
		})
	}
}

// P16.1, P16.2: a long text is gone through once, not from each place anew.
func TestLongText(t *testing.T) {
	const n = 1 << 18
	a := strings.Repeat("a", n)
	soon(t, "a long text", func() {
		for p, want := range map[string]struct {
			from, to int
			ok       bool
		}{
			"(a*)*b":        {0, 0, false},
			"a*b|c":         {0, 0, false},
			"a+$":           {0, n, true},
			"(a|b)*":        {0, n, true},
			"a{100}":        {0, 100, true},
			"a{100}$":       {n - 100, n, true},
			"a$":            {n - 1, n, true},
			"b*$":           {n, n, true},
			".{0,50}b|aa?$": {n - 2, n, true},
		} {
			l := of(t, p)
			if from, to, ok := match.First(l, a); from != want.from || to != want.to || ok != want.ok || match.Search(l, a) != ok {
				t.Errorf("First of %q = %d, %d, %v", p, from, to, ok)
			}
		}
		if got := match.Ends(of(t, "a*"), a, 5); len(got) != n-4 || got[0] != 5 || got[n-5] != n {
			t.Errorf("%d ends", len(got))
		}
		if l := of(t, "(aa)*"); !match.Whole(l, a) || match.Whole(l, a+"a") {
			t.Error("pairs of a")
		}
	})
}

// R1, P16.1: a long program, and steps that go on at one another without a byte.
func TestLongProgram(t *testing.T) {
	const n = 1 << 18
	chain, web := make([]api.Inst, n), make([]api.Inst, n)
	for i := range n - 1 {
		chain[i] = jump(i + 1)
		web[i] = split((i+1)%n, (i*7+3)%n)
	}
	chain[n-1], web[n-1] = stop(), stop()
	soon(t, "a long program", func() {
		if got := match.Ends(chain, "ab", 1); !slices.Equal(got, []int{1}) {
			t.Errorf("chain: %v", got)
		}
		if from, to, ok := match.First(web, "ab"); from != 0 || to != 0 || !ok || match.Whole(web, "ab") || !match.Whole(web, "") {
			t.Errorf("web: %d, %d, %v", from, to, ok)
		}
		chain[n-1] = jump(0)
		if match.Search(chain, strings.Repeat("a", 50)) {
			t.Error("ring")
		}
		l := of(t, strings.Repeat("a?", 1999)+"b$")
		s := strings.Repeat("a", 3000) + "b"
		if from, to, ok := match.First(l, s); from != 3000-1999 || to != 3001 || !ok || match.Whole(l, s) || !match.Whole(l, s[3000-1999:]) {
			t.Errorf("%d, %d, %v", from, to, ok)
		}
	})
}

// R3, R4: what is handed in isn't changed, and what is answered hangs on it alone.
func TestNothingShared(t *testing.T) {
	chance := rand.New(rand.NewSource(163))
	for range 500 {
		l := chanceProgram(chance, 8)
		was, s := slices.Clone(l), chanceText(chance, 6)
		first := match.Ends(l, s, 0)
		want := slices.Clone(first)
		match.Search(l, s)
		match.Whole(l, s)
		match.First(l, s)
		if !slices.Equal(l, was) {
			t.Fatal("a program was changed")
		}
		for i := range first {
			first[i] = -7
		}
		_ = append(first, -7)
		if got := match.Ends(l, s, 0); !slices.Equal(got, want) {
			t.Fatalf("again: %v; want %v", got, want)
		}
	}
}
