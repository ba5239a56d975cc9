package ignore_test

import (
	"math/rand"
	"regexp"
	"slices"
	"strconv"
	"strings"
	"testing"
	"time"

	"linhay/api"
	"linhay/ignore"
	"linhay/match"
	"linhay/prog"
)

// deep answers a pattern of an a in brackets, n deep.
func deep(n int) string { return strings.Repeat("(", n) + "a" + strings.Repeat(")", n) }

// long answers a pattern of n a, each of which is a step.
func long(n int) string {
	return "(a{100}){" + strconv.Itoa(n/100) + "}" + strings.Repeat("a", n%100)
}

// slowParse goes through a text byte by byte: a line ends ahead of a byte 10, or at the end, if anything stands there.
func slowParse(text string) ([]string, int, api.Errno) {
	isBlank := func(c byte) bool { return c == 32 || c == 9 }
	var out []string
	number, from := 0, 0
	for at := 0; at <= len(text); at++ {
		if at < len(text) && text[at] != 10 || at == len(text) && from == at {
			continue
		}
		number++
		a, b := from, at
		from = at + 1
		for a < b && isBlank(text[a]) {
			a++
		}
		for a < b && isBlank(text[b-1]) {
			b--
		}
		if a == b || text[a] == '#' {
			continue
		}
		for i := a; i+1 < b; i++ {
			if isBlank(text[i]) && text[i+1] == '#' {
				b = i
			}
		}
		for isBlank(text[b-1]) {
			b--
		}
		if _, e := prog.Of(text[a:b]); e != api.OK {
			return nil, number, e
		}
		out = append(out, text[a:b])
	}
	return out, 0, api.OK
}

// isParsed holds what is told of a text against the slow answer.
func isParsed(t *testing.T, text string) {
	t.Helper()
	want, line, err := slowParse(text)
	got, at, e := ignore.Parse(text)
	if !slices.Equal(got, want) || at != line || e != err {
		t.Fatalf("Parse(%q) = %q, %d, %v; want %q, %d, %v", text, got, at, e, want, line, err)
	}
}

// last answers what stands behind the last slash of a way without odd parts.
func last(sub string) string {
	l := strings.Split(sub, "/")
	return l[len(l)-1]
}

// slowHas asks for a pattern alone, and looks by itself at what stands behind.
func slowHas(pattern, sub string) bool {
	l, e := prog.Of(pattern)
	if e != api.OK {
		return false
	}
	if strings.Count(pattern, "/") == 0 {
		return slices.Contains(match.Ends(l, last(sub), 0), len(last(sub)))
	}
	way := "/" + sub
	for from := range len(way) + 1 {
		for _, end := range match.Ends(l, way, from) {
			if end == len(way) || way[end] == '/' {
				return true
			}
		}
	}
	return false
}

// slowBegins asks for a pattern alone, at the way's beginning.
func slowBegins(pattern, sub string) bool {
	l, e := prog.Of(pattern)
	return e == api.OK && len(match.Ends(l, sub, 0)) > 0
}

// compiled answers the set of patterns that are right, of those that are left out, or of what ways begin with.
func compiled(t *testing.T, build func([]string) (*ignore.Set, int, api.Errno), l ...string) *ignore.Set {
	t.Helper()
	s, at, e := build(l)
	if s == nil || at != -1 || e != api.OK {
		t.Fatalf("%.300q: %v %d %v", l, s, at, e)
	}
	if s.Len() != len(l) {
		t.Fatalf("%.300q: Len = %d", l, s.Len())
	}
	return s
}

// eachText calls a function with each text of at most n of some signs.
func eachText(signs string, n int, do func(s string)) {
	do("")
	if n == 0 {
		return
	}
	for i := range len(signs) {
		eachText(signs, n-1, func(s string) { do(signs[i:i+1] + s) })
	}
}

// eachWay calls a function with each way of at most n parts, each of at most two of some signs, with no odd ones.
func eachWay(signs string, n int, do func(sub string)) {
	eachText(signs, 2, func(part string) {
		if part == "" {
			return
		}
		do(part)
		if n > 1 {
			eachWay(signs, n-1, func(sub string) { do(part + "/" + sub) })
		}
	})
}

// P17.1: which patterns lines have.
func TestParse(t *testing.T) {
	for _, c := range []struct {
		text string
		want []string
	}{
		{"", nil},
		{"\n", nil},
		{"\n\n", nil},
		{" \t\n\t \n ", nil},
		{"a", []string{"a"}},
		{"a\n", []string{"a"}},
		{"a\nb", []string{"a", "b"}},
		{"a\nb\n", []string{"a", "b"}},
		{"b\na\nb", []string{"b", "a", "b"}},
		{"\n\na\n\n\nb\n\n", []string{"a", "b"}},
		{"  a", []string{"a"}},
		{"a  ", []string{"a"}},
		{"\ta\t \nb \t", []string{"a", "b"}},
		{"a b\tc", []string{"a b\tc"}},
		{"#", nil},
		{"#a\n# a\n \t#a\n##", nil},
		{"#a\nb", []string{"b"}},
		{"a#", []string{"a#"}},
		{"a#b#c", []string{"a#b#c"}},
		{"a #", []string{"a"}},
		{"a\t#", []string{"a"}},
		{"a #b", []string{"a"}},
		{"a # b", []string{"a"}},
		{"a \t \t# b", []string{"a"}},
		{"a b #c", []string{"a b"}},
		{"a#b #c", []string{"a#b"}},
		{"a #b #c", []string{"a"}},
		{"a #b\t#c", []string{"a"}},
		{"a\t#b #c", []string{"a"}},
		{"a\t#b\t#c", []string{"a"}},
		{"a # b\nc # d\n# e\nf", []string{"a", "c", "f"}},
		{`\#`, []string{`\#`}},
		{`\# #`, []string{`\#`}},
		{"a\r\n\r\nb\r", []string{"a\r", "\r", "b\r"}},
		{"\va\f", []string{"\va\f"}},
		{"\u00a0a\u2003", []string{"\u00a0a\u2003"}},
		{"\xffa\x00", []string{"\xffa\x00"}},
		{"a|b\n()\n|\n^$", []string{"a|b", "()", "|", "^$"}},
		{"# (\na #(\nb", []string{"a", "b"}},
		{"RCS\n.+,v\n\nCVS\n\\.\\#.+       # CVS conflict files\n\\.cvsignore\n", []string{"RCS", ".+,v", "CVS", `\.\#.+`, `\.cvsignore`}},
	} {
		isParsed(t, c.text)
		got, at, e := ignore.Parse(c.text)
		if !slices.Equal(got, c.want) || at != 0 || e != api.OK {
			t.Errorf("Parse(%q) = %q, %d, %v; want %q", c.text, got, at, e, c.want)
		}
	}
}

// P17.1: the first line whose pattern is refused, with its error.
func TestParseRefused(t *testing.T) {
	for _, c := range []struct {
		text string
		line int
		want api.Errno
	}{
		{"(", 1, api.ErrForm},
		{"(\n", 1, api.ErrForm},
		{"\n(", 2, api.ErrForm},
		{"a\nb\n*", 3, api.ErrForm},
		{"# (\n\n  \n\t)\n", 4, api.ErrForm},
		{"a\n[b\n(", 2, api.ErrForm},
		{"a\n[b-a]\n(", 2, api.ErrRange},
		{"a{101}", 1, api.ErrRange},
		{"(\n[b-a]", 1, api.ErrForm},
		{deep(api.MaxDeep + 1), 1, api.ErrMany},
		{"a\n" + long(api.MaxSteps+1) + "\n(", 2, api.ErrMany},
		{"a \\ #b", 1, api.ErrForm}, // the blank is gone that the backslash stood ahead of
		{"[ #]", 1, api.ErrForm},
		{"a)/(b", 1, api.ErrForm},
		{"a)(b", 1, api.ErrForm},
	} {
		isParsed(t, c.text)
		got, at, e := ignore.Parse(c.text)
		if len(got) != 0 || at != c.line || e != c.want {
			t.Errorf("Parse(%.200q) = %q, %d, %v; want line %d, %v", c.text, got, at, e, c.line, c.want)
		}
	}
	// How patterns are put together is asked by Compile alone.
	text := deep(api.MaxDeep) + "/\n" + long(api.MaxSteps-1) + "/\n" + long(api.MaxSteps)
	if got, at, e := ignore.Parse(text); len(got) != 3 || at != 0 || e != api.OK {
		t.Errorf("%d patterns, %d, %v", len(got), at, e)
	}
}

// P17.1: all short texts.
func TestParseShort(t *testing.T) {
	eachText(" \t#a\n(", 6, func(s string) { isParsed(t, s) })
	eachText(" \t#\na", 7, func(s string) { isParsed(t, s) })
	for c := range 256 {
		for d := range 256 {
			b := string([]byte{byte(c), byte(d)})
			isParsed(t, b)
			isParsed(t, "x"+b+"x")
			isParsed(t, b+"x\n"+b)
			isParsed(t, "x"+b+"#"+b)
		}
	}
}

// P17.1: texts by chance.
func TestParseByChance(t *testing.T) {
	chance := rand.New(rand.NewSource(17))
	pieces := []string{" ", "\t", " #", "\t#", "#", "\n", "\n", "\n", "\n", "a", "b*", "(c|d)", `\#`, "/", "^", "\r", ".+"}
	odd := []string{"(", ")", "[b-a]", "a{101}", `\`, long(5000)}
	for range 20000 {
		var s strings.Builder
		for range chance.Intn(40) {
			if chance.Intn(60) == 0 {
				s.WriteString(odd[chance.Intn(len(odd))])
			}
			s.WriteString(pieces[chance.Intn(len(pieces))])
		}
		isParsed(t, s.String())
	}
}

// P17.1: the built-in patterns, all of them right, and new ones each time.
func TestDefault(t *testing.T) {
	want := []string{"RCS", ".+,v", "CVS", "\\.\\#.+", "\\.cvsignore", "\\.svn", "_darcs", "\\.hg", "\\.git", "\\.gitignore", "\\.gitmodules", ".+~", "\\#.*\\#", "^/README.*", "^/LICENSE.*", "^/COPYING"}
	l := ignore.Default()
	if !slices.Equal(l, want) {
		t.Fatalf("%q", l)
	}
	for i := range l {
		l[i] = "("
	}
	if l = append(l[:0], "x"); !slices.Equal(ignore.Default(), want) {
		t.Fatalf("behind a change: %q, %q", ignore.Default(), l)
	}
	for _, text := range []string{strings.Join(want, "\n"), strings.Join(want, "  # built in\n")} {
		if l, at, e := ignore.Parse(text); !slices.Equal(l, want) || at != 0 || e != api.OK {
			t.Errorf("Parse of them: %q, %d, %v", l, at, e)
		}
	}
	compiled(t, ignore.Begins, want...)
}

// P17.2: what the built-in patterns leave out.
func TestDefaultHas(t *testing.T) {
	s := compiled(t, ignore.Compile, ignore.Default()...)
	for _, sub := range []string{
		"RCS", "a/RCS", "a/b/RCS", "x,v", "a/x,v", ",,v", "x~,v", "CVS", "a/CVS",
		".#x", "a/.#x", ".#.#", ".cvsignore", "a/.cvsignore", ".svn", "a/.svn", "_darcs", "a/_darcs",
		".hg", "a/.hg", ".git", "a/.git", ".gitignore", "a/.gitignore", ".gitmodules", "a/.gitmodules",
		"x~", "a/x~", "~~", "##", "#x#", "a/#x#", "###",
		"README", "README.md", "README/x", "READMEs/x/y", "README.d/a", "LICENSE", "LICENSE.txt", "LICENSE/x", "COPYING", "COPYING/x",
	} {
		if !s.Has(sub) {
			t.Errorf("%q is not left out", sub)
		}
	}
	for _, sub := range []string{
		"RCSs", "xRCS", "RCS/x", "rcs", ",v", "a/,v", "x,vv", "x,v/y", "CVS/x", "CVSs",
		".#", "a/.#", "x.#y", "xcvsignore", "cvsignore", ".cvsignores", "xsvn", "svn", ".svn/x", "_darc", ".hgs", "xhg", ".gits", "xgit", ".git/x", ".gitx", "xgitignore",
		"~", "a/~", "x~y", "#", "#x", "x#", "a#x#",
		"a/README", "aREADME", "readme", "a/README.md", "a/LICENSE", "LICENCE", "COPYING.txt", "COPYINGs", "a/COPYING", "COPY", "bin", "bin/x", "a",
	} {
		if s.Has(sub) {
			t.Errorf("%q is left out", sub)
		}
	}
}

// P17.2: what a pattern has, of those that are left out.
func TestHas(t *testing.T) {
	for _, c := range []struct {
		pattern  string
		has, not []string
	}{
		{"bin", []string{"bin", "a/bin", "a/b/bin"}, []string{"bins", "abin", "bin/a", "a/bins", "a/bin/b", "", "Bin"}},
		{"a|b", []string{"a", "b", "x/a", "x/b", "a/b", "b/a"}, []string{"ab", "a/x", "x"}},
		{"^a$", []string{"a", "x/a"}, []string{"aa", "a/x"}},
		{"a^", nil, []string{"a", "a/a"}},
		{"", []string{""}, []string{"a", "a/b"}},
		{".*", []string{"a", "a/b", "", "ab"}, []string{"a\n", "a/\nb"}},
		{"a.b", []string{"axb", "x/a.b"}, []string{"a/b", "x/a/b", "a\nb"}},
		{"[^a]+", []string{"b", "a/b", "a/bc"}, []string{"a", "b/a", "ba"}},
		{"a*", []string{"", "a", "aa", "b/aaa"}, []string{"b", "a/b"}},
		{"a|ab", []string{"ab", "a"}, []string{"abb", "aab"}},
		{"a/b", []string{"a/b", "xa/b", "x/a/b", "a/b/c", "xa/b/c/d", "a/a/b"}, []string{"a/bc", "a", "b", "ab", "a/x/b", "b/a"}},
		{"/a", []string{"a", "a/b", "x/a", "x/a/b"}, []string{"ab", "xa", "x/ab", "x/ya"}},
		{"^/a", []string{"a", "a/b"}, []string{"x/a", "ab", "a.b/c"}},
		{"^a/b", nil, []string{"a/b", "a/b/c"}},
		{"^/a/b$", []string{"a/b"}, []string{"a/b/c", "x/a/b", "a/bc"}},
		{"a/", []string{"xa/", "a//b", "a/"}, []string{"a/b", "a", "xa/b"}},
		{"/", []string{"", "a/", "a//b", "/a"}, []string{"a", "a/b"}},
		{"/$", []string{"", "a/"}, []string{"a/b", "a//b"}},
		{"/a|b", []string{"a", "b", "xb", "x/yb", "xb/y", "x/a"}, []string{"xa", "bx", "abx"}},
		{"b|/a", []string{"a", "xb", "b/x"}, []string{"xa", "bx"}},
		{"^/a|b/c", []string{"a", "a/x", "xb/c", "y/b/c/d"}, []string{"x/a", "ax", "b/cx"}},
		{"/a*", []string{"a", "aa/b", "", "x//y"}, []string{"b", "ab", "b/ab"}},
		{"/a.*c", []string{"abc", "a/b/c", "x/ac/d", "a/c"}, []string{"a", "ab", "acd", "xac"}},
		{"/.*", []string{"", "a", "a/b", "a\nb/c"}, []string{"a\n", "a\nb"}},
		{"[/]", []string{"", "a/"}, []string{"a", "a/b"}},
		{"[^/]", nil, []string{""}},
		{"[^/]+", []string{"a", "ab", "a/b", "x"}, []string{""}},
		{`\/a`, []string{"a", "x/a/b"}, []string{"xa"}},
		{"(/|$)", []string{"", "a", "a/b"}, nil},
		{"/a{2}", []string{"aa", "x/aa/b"}, []string{"a", "aaa"}},
		{"(/a)+", []string{"a", "a/a", "x/a/a/y", "a/a/a"}, []string{"x", "xa", "aa"}},
		{"man/man[18]", []string{"man/man1", "u/man/man8/x"}, []string{"man/man2", "man/man18"}},
	} {
		s := compiled(t, ignore.Compile, c.pattern)
		for _, sub := range c.has {
			if !s.Has(sub) {
				t.Errorf("%q hasn't %q", c.pattern, sub)
			}
		}
		for _, sub := range c.not {
			if s.Has(sub) {
				t.Errorf("%q has %q", c.pattern, sub)
			}
		}
	}
}

// P17.2: a way's last part is path's Base: of the way, taken clean.
func TestHasBase(t *testing.T) {
	s := compiled(t, ignore.Compile, "b")
	for sub, want := range map[string]bool{"b": true, "/b": true, "a/b/": true, "a//b": true, "a/b/.": true, "b/c/..": true, "b/..": false, "a/b/..": false, "..": false, "b/.": true, "./b": true} {
		if s.Has(sub) != want {
			t.Errorf("b of %q: %v", sub, !want)
		}
	}
	s = compiled(t, ignore.Compile, "()")
	for sub, want := range map[string]bool{"": true, "/": true, ".": true, "a/..": true, "..": true, "a": false, "a/": false} {
		if s.Has(sub) != want {
			t.Errorf("() of %q: %v", sub, !want)
		}
	}
	// A pattern with a slash asks for the way as it is.
	s = compiled(t, ignore.Compile, "^/a/b")
	for sub, want := range map[string]bool{"a/b": true, "a/b/": true, "/a/b": false, "a//b": false, "./a/b": false, "a/b/..": true, "a/c/../b": false} {
		if s.Has(sub) != want {
			t.Errorf("^/a/b of %q: %v", sub, !want)
		}
	}
}

// P17.2: what a pattern has, of those that ways begin with.
func TestBegins(t *testing.T) {
	for _, c := range []struct {
		pattern  string
		has, not []string
	}{
		{"bin", []string{"bin", "bins", "bin/x", "bins/x/y"}, []string{"a/bin", "abin", "bi", "", "/bin"}},
		{"a|b", []string{"a", "b", "ax", "bx", "b/x"}, []string{"xa", "xb", "x/b", ""}},
		{"^a|b", []string{"a", "b", "ab", "bx"}, []string{"xb", "xa"}},
		{"^a", []string{"a", "ab"}, []string{"xa", "x/a"}},
		{"a$", []string{"a"}, []string{"ab", "a/b", "xa"}},
		{"a$|b", []string{"a", "bx"}, []string{"ab", "xb", "xa"}},
		{"", []string{"", "a", "a/b"}, nil},
		{"|a", []string{"", "b"}, nil},
		{"a|", []string{"", "b"}, nil},
		{"man/man[18]", []string{"man/man1", "man/man8/x", "man/man1x"}, []string{"man/man2", "man", "x/man/man1", "man/man"}},
		{"/a", []string{"/a", "/ab"}, []string{"a", "a/a", "x/a"}},
		{"^/a", []string{"/a"}, []string{"a"}},
		{"a/", []string{"a/b", "a/"}, []string{"a", "xa/b"}},
		{".*b", []string{"b", "ab", "a/b/c", "abc"}, []string{"a", "a\nb"}},
		{"a.b", []string{"a/b", "axbx"}, []string{"ab", "xa/b"}},
		{"a{2}", []string{"aa", "aab"}, []string{"a", "baa"}},
	} {
		s := compiled(t, ignore.Begins, c.pattern)
		for _, sub := range c.has {
			if !s.Has(sub) {
				t.Errorf("%q hasn't %q", c.pattern, sub)
			}
		}
		for _, sub := range c.not {
			if s.Has(sub) {
				t.Errorf("%q has %q", c.pattern, sub)
			}
		}
	}
}

// P17.2: all short patterns, with all short ways.
func TestHasShort(t *testing.T) {
	var subs []string
	eachWay("ab", 3, func(sub string) { subs = append(subs, sub) })
	subs = append(subs, "", "\n", "a\nb", "a/\n")
	eachText("a/^$|.", 4, func(p string) {
		s, b := compiled(t, ignore.Compile, p), compiled(t, ignore.Begins, p)
		for _, sub := range subs {
			if got, want := s.Has(sub), slowHas(p, sub); got != want {
				t.Fatalf("%q has %q: %v", p, sub, got)
			}
			if got, want := b.Has(sub), slowBegins(p, sub); got != want {
				t.Fatalf("%q begins %q: %v", p, sub, got)
			}
		}
	})
}

// P17.2: all bytes are taken as they are.
func TestHasBytes(t *testing.T) {
	for c := range 256 {
		b := string([]byte{byte(c)})
		p := b
		if c < 128 && !isWord(byte(c)) {
			p = `\` + b
		}
		s, d := compiled(t, ignore.Compile, p), compiled(t, ignore.Begins, p)
		slash := compiled(t, ignore.Compile, "x/"+p)
		for e := range 256 {
			sub := string([]byte{byte(e)})
			if c == '/' || e == '/' || e == '.' {
				continue
			}
			if s.Has(sub) != (c == e) || s.Has("x/"+sub) != (c == e) || s.Has(sub+"/x") != (b == "x") || slash.Has("x/"+sub) != (c == e) {
				t.Fatalf("%q of %q", p, sub)
			}
			if d.Has(sub) != (c == e) || d.Has(sub+"/x") != (c == e) {
				t.Fatalf("%q begins %q", p, sub)
			}
		}
	}
}

// isWord tells whether a byte may be a letter that a backslash makes another thing of.
func isWord(c byte) bool { return c >= 'a' && c <= 'z' || c >= 'A' && c <= 'Z' }

// P17.2: patterns and ways by chance, with Go's regular expressions telling what the patterns say.
func TestHasByChance(t *testing.T) {
	chance := rand.New(rand.NewSource(171))
	pieces := []string{"a", "b", "c", "/", "/", ".", "[ab]", "[^a]", "[^/]", "^", "$", "(a|b)", "(/|c)", "a*", "b+", "c?", ".*", "|", "(^/|b)", "()", `\.`, "a{2}", "(/a){1,2}"}
	for range 3000 {
		var p strings.Builder
		for range chance.Intn(6) {
			p.WriteString(pieces[chance.Intn(len(pieces))])
		}
		s, b := compiled(t, ignore.Compile, p.String()), compiled(t, ignore.Begins, p.String())
		base, way, begin := regexp.MustCompile(`^(?:`+p.String()+`)$`), regexp.MustCompile(`(?:`+p.String()+`)(?:/|$)`), regexp.MustCompile(`^(?:`+p.String()+`)`)
		for range 60 {
			sub := wayByChance(chance)
			want := base.MatchString(last(sub))
			if strings.Contains(p.String(), "/") {
				want = way.MatchString("/" + sub)
			}
			if got := s.Has(sub); got != want || got != slowHas(p.String(), sub) {
				t.Fatalf("%q has %q: %v", p.String(), sub, got)
			}
			if got := b.Has(sub); got != begin.MatchString(sub) || got != slowBegins(p.String(), sub) {
				t.Fatalf("%q begins %q: %v", p.String(), sub, got)
			}
		}
	}
}

// wayByChance answers a way without odd parts.
func wayByChance(chance *rand.Rand) string {
	var parts []string
	for range 1 + chance.Intn(4) {
		part := ""
		for range 1 + chance.Intn(3) {
			part += "abc"[chance.Intn(3):][:1]
		}
		parts = append(parts, part)
	}
	return strings.Join(parts, "/")
}

// P17.2: the first pattern that is refused, alone or put together, with its error.
func TestRefused(t *testing.T) {
	for i, c := range []struct {
		l       []string
		at      int // of those that are left out
		want    api.Errno
		beginAt int // of those that ways begin with
		begin   api.Errno
	}{
		{l: nil, at: -1, beginAt: -1},
		{l: []string{}, at: -1, beginAt: -1},
		{l: []string{"("}, at: 0, want: api.ErrForm, beginAt: 0, begin: api.ErrForm},
		{l: []string{"a", "[b"}, at: 1, want: api.ErrForm, beginAt: 1, begin: api.ErrForm},
		{l: []string{"a", "b/c", "[b-a]", "("}, at: 2, want: api.ErrRange, beginAt: 2, begin: api.ErrRange},
		{l: []string{"a", "(", "[b-a]"}, at: 1, want: api.ErrForm, beginAt: 1, begin: api.ErrForm},
		{l: []string{"a", "/{2}", "*"}, at: 2, want: api.ErrForm, beginAt: 2, begin: api.ErrForm},
		{l: []string{"a", "{2}/"}, at: 1, want: api.ErrForm, beginAt: 1, begin: api.ErrForm},
		{l: []string{`a/\`}, at: 0, want: api.ErrForm, beginAt: 0, begin: api.ErrForm},
		{l: []string{`\`}, at: 0, want: api.ErrForm, beginAt: 0, begin: api.ErrForm},
		// Brackets of their own would close those that a pattern is put in.
		{l: []string{"a)/(b"}, at: 0, want: api.ErrForm, beginAt: 0, begin: api.ErrForm},
		{l: []string{"a)(b"}, at: 0, want: api.ErrForm, beginAt: 0, begin: api.ErrForm},
		{l: []string{"x", ")/("}, at: 1, want: api.ErrForm, beginAt: 1, begin: api.ErrForm},
		{l: []string{"/)|("}, at: 0, want: api.ErrForm, beginAt: 0, begin: api.ErrForm},
		// The brackets that it is put in are one more.
		{l: []string{deep(api.MaxDeep)}, at: -1, beginAt: 0, begin: api.ErrMany},
		{l: []string{"b", deep(api.MaxDeep) + "/"}, at: 1, want: api.ErrMany, beginAt: 1, begin: api.ErrMany},
		{l: []string{deep(api.MaxDeep-1) + "/"}, at: -1, beginAt: -1},
		{l: []string{deep(api.MaxDeep - 1)}, at: -1, beginAt: -1},
		{l: []string{deep(api.MaxDeep + 1)}, at: 0, want: api.ErrMany, beginAt: 0, begin: api.ErrMany},
		// So are the steps of what is put to it: four of (/|$), one of ^.
		{l: []string{long(api.MaxSteps)}, at: -1, beginAt: 0, begin: api.ErrMany},
		{l: []string{long(api.MaxSteps - 1)}, at: -1, beginAt: -1},
		{l: []string{long(api.MaxSteps + 1)}, at: 0, want: api.ErrMany, beginAt: 0, begin: api.ErrMany},
		{l: []string{"a", "b", long(3999-4) + "/"}, at: -1, beginAt: -1},
		{l: []string{"a", "b", long(3999-3) + "/"}, at: 2, want: api.ErrMany, beginAt: -1},
		{l: []string{"a", long(3999-1) + "/"}, at: 1, want: api.ErrMany, beginAt: -1},
		{l: []string{"a", long(3999) + "/"}, at: 1, want: api.ErrMany, beginAt: 1, begin: api.ErrMany},
		{l: []string{"a", long(4000) + "/"}, at: 1, want: api.ErrMany, beginAt: 1, begin: api.ErrMany},
		// What it has alone is told, though ahead of it too many brackets would be met.
		{l: []string{deep(api.MaxDeep) + "/)"}, at: 0, want: api.ErrForm, beginAt: 0, begin: api.ErrForm},
		{l: []string{deep(api.MaxDeep) + "/[b-a]"}, at: 0, want: api.ErrRange, beginAt: 0, begin: api.ErrRange},
		// One that is refused put together, ahead of one that is refused alone.
		{l: []string{"a", deep(api.MaxDeep) + "/", "("}, at: 1, want: api.ErrMany, beginAt: 1, begin: api.ErrMany},
		{l: []string{"a", "(", deep(api.MaxDeep) + "/"}, at: 1, want: api.ErrForm, beginAt: 1, begin: api.ErrForm},
	} {
		isMade(t, i, ignore.Compile, c.l, c.at, c.want)
		isMade(t, i, ignore.Begins, c.l, c.beginAt, c.begin)
	}
}

// isMade holds what is made of patterns against what is wanted.
func isMade(t *testing.T, i int, build func([]string) (*ignore.Set, int, api.Errno), l []string, at int, want api.Errno) {
	t.Helper()
	s, got, e := build(l)
	if got != at || e != want || (s == nil) != (want != api.OK) {
		t.Errorf("%d: %v, %d, %v; want %d, %v", i, s, got, e, at, want)
	}
	if s != nil && s.Len() != len(l) {
		t.Errorf("%d: Len = %d", i, s.Len())
	}
}

// P17.2: patterns of the most brackets and steps that may be are asked, too.
func TestGreatest(t *testing.T) {
	a := func(n int) string { return strings.Repeat("a", n) }
	for _, c := range []struct {
		build   func([]string) (*ignore.Set, int, api.Errno)
		p       string
		has     string
		without string
	}{
		{ignore.Compile, deep(api.MaxDeep), "x/a", "aa"},
		{ignore.Compile, deep(api.MaxDeep-1) + "/", "xa/", "a/b"},
		{ignore.Begins, deep(api.MaxDeep - 1), "ab", "ba"},
		{ignore.Compile, long(api.MaxSteps), "x/" + a(4000), a(3999)},
		{ignore.Compile, long(3995) + "/", a(3996) + "/", a(3994) + "/"},
		{ignore.Begins, long(3999), a(4000), a(3998)},
	} {
		s := compiled(t, c.build, c.p)
		if !s.Has(c.has) || s.Has(c.without) {
			t.Errorf("%.100q", c.p)
		}
	}
}

// P17.2: a set of several patterns has what one of them has, the first or the last one, and asks each one for itself.
func TestSeveral(t *testing.T) {
	l := []string{"a", "b/c", "^/d", "e.*", "e"}
	s, b := compiled(t, ignore.Compile, l...), compiled(t, ignore.Begins, l...)
	for sub, want := range map[string]bool{"a": true, "x/a": true, "b/c": true, "x/b/c/y": true, "d": true, "d/x": true, "x/d": false, "e": true, "ef": true, "b": false, "c": false, "a/x": false, "": false} {
		if s.Has(sub) != want {
			t.Errorf("%q: %v", sub, !want)
		}
	}
	for sub, want := range map[string]bool{"a": true, "ax": true, "x/a": false, "b/c": true, "b/cx": true, "x/b/c": false, "d": false, "/d": true, "e": true, "b": false, "c": false, "": false} {
		if b.Has(sub) != want {
			t.Errorf("begins %q: %v", sub, !want)
		}
	}
	twice := compiled(t, ignore.Compile, "a", "a", "a")
	if !twice.Has("a") || twice.Has("b") {
		t.Error("one pattern thrice")
	}
}

// P17.2: a set without patterns has nothing, but is one.
func TestEmpty(t *testing.T) {
	for _, s := range []*ignore.Set{compiled(t, ignore.Compile), compiled(t, ignore.Begins)} {
		for _, sub := range []string{"", "a", "a/b", "/"} {
			if s.Has(sub) {
				t.Errorf("%q", sub)
			}
		}
	}
}

// P17.3: a nil set has nothing.
func TestNil(t *testing.T) {
	var s *ignore.Set
	for _, sub := range []string{"", "a", "a/b", "/", ".git", "\x00"} {
		if s.Has(sub) {
			t.Errorf("%q", sub)
		}
	}
	if s.Len() != 0 {
		t.Error(s.Len())
	}
}

// P17.4: a set of more patterns has whatever one of fewer has, and nothing that none of its patterns has.
func TestMore(t *testing.T) {
	chance := rand.New(rand.NewSource(174))
	all := []string{"a", "b", "ab", "^/a", "b/a", "a/b$", "c+", "/b.", ".*bc", "a|^/c", "(a|b)/c", "[^a]*", "ca"}
	for _, build := range []func([]string) (*ignore.Set, int, api.Errno){ignore.Compile, ignore.Begins} {
		for range 400 {
			var fewer, more []string
			for range chance.Intn(5) {
				fewer = append(fewer, all[chance.Intn(len(all))])
			}
			for _, p := range fewer {
				for chance.Intn(2) == 0 {
					more = append(more, all[chance.Intn(len(all))])
				}
				more = append(more, p)
			}
			more = append(more, all[chance.Intn(len(all))])
			s, m := compiled(t, build, fewer...), compiled(t, build, more...)
			for range 40 {
				sub := wayByChance(chance)
				one := func(l []string) bool {
					return slices.ContainsFunc(l, func(p string) bool { return compiled(t, build, p).Has(sub) })
				}
				if s.Has(sub) && !m.Has(sub) || s.Has(sub) != one(fewer) || m.Has(sub) != one(more) {
					t.Fatalf("%q, %q: %q", fewer, more, sub)
				}
			}
		}
	}
}

// R3, R4: a list that is handed in isn't changed nor kept, and a set answers the same again.
func TestNotKept(t *testing.T) {
	for _, build := range []func([]string) (*ignore.Set, int, api.Errno){ignore.Compile, ignore.Begins} {
		l := []string{"a", "b/c", "d"}
		room := l[:2]
		s := compiled(t, build, room...)
		if !slices.Equal(l, []string{"a", "b/c", "d"}) {
			t.Fatalf("changed: %q", l)
		}
		l[0], l[1] = "x", "y/z"
		for range 3 {
			if !s.Has("a") || !s.Has("b/c") || s.Has("x") || s.Has("y/z") || s.Has("d") || s.Len() != 2 {
				t.Fatal("what was handed in is kept, or an answer isn't the same again")
			}
		}
		// Another set is nothing to it.
		o := compiled(t, build, "x")
		if s.Has("x") || !o.Has("x") || o.Has("a") || s.Len() != 2 || o.Len() != 1 {
			t.Fatal("two sets have something together")
		}
	}
	a, _, _ := ignore.Parse("a\nb")
	b, _, _ := ignore.Parse("a\nb")
	a[0] = "c"
	if b[0] != "a" || len(append(a, "d")) != 3 || len(b) != 2 {
		t.Fatal("two answers share memory")
	}
}

// soon calls a function that must end at once.
func soon(t *testing.T, what string, do func()) {
	t.Helper()
	done := make(chan struct{})
	go func() {
		defer close(done)
		do()
	}()
	select {
	case <-done:
	case <-time.After(2 * time.Minute):
		t.Fatalf("%s takes too long", what)
	}
}

// R1: long texts, many patterns, and patterns that would go back for ever, end soon.
func TestSoon(t *testing.T) {
	a := strings.Repeat("a", 2000)
	soon(t, "a pattern that goes back", func() {
		for _, build := range []func([]string) (*ignore.Set, int, api.Errno){ignore.Compile, ignore.Begins} {
			s := compiled(t, build, "(a*)*b", "(a*)*/b", "((a|aa)+)+c", "/((a|aa)+)+c")
			if s.Has(a) || s.Has(a+"/"+a) {
				t.Error("a has b")
			}
		}
	})
	soon(t, "a long text", func() {
		l, at, e := ignore.Parse(strings.Repeat("a b #"+a+"\n", 1000) + strings.Repeat("\n", 100000) + strings.Repeat(" \t", 100000) + a + strings.Repeat(" ", 100000) + "#")
		if len(l) != 1001 || l[0] != "a b" || l[1000] != a || at != 0 || e != api.OK {
			t.Error(len(l), at, e)
		}
		if l, at, e := ignore.Parse(strings.Repeat("#\n", 100000) + "("); len(l) != 0 || at != 100001 || e != api.ErrForm {
			t.Error(len(l), at, e)
		}
	})
	soon(t, "a long list", func() {
		l := make([]string, 20000)
		for i := range l {
			l[i] = "x" + strings.Repeat("a", i%50) + "/"
		}
		s := compiled(t, ignore.Compile, append(l, "z")...)
		if !s.Has("b/z") || s.Has("b/y") || !s.Has("xa/") {
			t.Error("a long list")
		}
	})
	soon(t, "a long way", func() {
		s := compiled(t, ignore.Compile, "b", "c/d")
		if way := strings.Repeat("a/", 200000); s.Has(way+"a") || !s.Has(way+"b") || !s.Has(way+"c/d") {
			t.Error("a long way")
		}
	})
}
