package dots_test

import (
	"regexp"
	"slices"
	"strings"
	"testing"
	"time"

	"linhay/api"
	"linhay/dots"
	"linhay/name"
)

var (
	full = strings.Repeat("n", api.MaxName)

	// Names that stand for others, and these.
	pairs = map[string]string{
		"dot-bashrc": ".bashrc", "dot-config": ".config", "dot-a": ".a", "dot-bash_profile": ".bash_profile",
		// The fifth letter alone is asked for: points may stand behind it.
		"dot-a.": ".a.", "dot-a..": ".a..", "dot-a.b": ".a.b", "dot-a.conf.d": ".a.conf.d",
		// dot- is taken away once, and from the beginning alone.
		"dot-dot-a": ".dot-a", "dot-dot-": ".dot-", "dot-dot-.a": ".dot-.a", "dot-dot-dot-a": ".dot-dot-a", "dot-a-dot-b": ".a-dot-b", "dot-dot": ".dot", "dot-dot-.": ".dot-.",
		// What is behind dot- may be of any other letters.
		"dot--": ".-", "dot--a": ".-a", "dot---": ".--", "dot-_": "._", "dot-1": ".1", "dot-A": ".A", "dot- ": ". ", "dot-\n": ".\n", "dot-a\nb": ".a\nb", "dot-\\": ".\\", "dot-*": ".*", "dot-~": ".~",
		"dot-\x00": ".\x00", "dot-\x80": ".\x80", "dot-\xff": ".\xff", "dot-\u00e4": ".\u00e4", "dot-\U0001f600": ".\U0001f600",
		// Signs that look like a point, and are none.
		"dot-\u2024a": ".\u2024a", "dot-\uff0ea": ".\uff0ea", "dot-\u2025": ".\u2025", "dot-\u00b7": ".\u00b7",
		// What may be no name is taken likewise.
		"dot-/": "./", "dot-/a": "./a", "dot-a/dot-b": ".a/dot-b", "dot-a/../b": ".a/../b",
		"dot-" + full: "." + full,
	}

	// Names that stand for themselves.
	selves = []string{
		"", "a", "ab", "bashrc", "README", full, full + full,
		// Parts of dot- alone.
		"d", "do", "dot", "dot-", "-", "t-", "ot-", "ot-a", "ot-abc", "dota", "dotabc", "dot_a", "dot=a", "dot a", "dot.a", "dot.bashrc", "dots", "dots-a", "do-a", "dt-a", "doot-a", "dot\u2010a", "dot\u2013a", "dot/a", "dot\x00a",
		// Great letters.
		"Dot-a", "DOT-a", "dOt-a", "doT-a", "DOT-A",
		// Something ahead of dot-.
		"a-dot-b", "adot-b", "-dot-a", " dot-a", "\ndot-a", "\x00dot-a", "_dot-a", "/dot-a", "a/dot-b", "\ufeffdot-a",
		// A point behind dot-.
		"dot-.", "dot-..", "dot-...", "dot-.a", "dot-..a", "dot-.bashrc", "dot-./", "dot-./a", "dot-.dot-a", "dot-.-",
		// A point ahead.
		".", "..", "...", ".a", "..a", "...a", ".bashrc", ".dot-a", ".dot-", "..dot-a", "./dot-a", "../dot-a",
	}

	// Names that no other one stands for, of those with points, and others.
	without = []string{
		"", "a", "ab", "bashrc", full, "-", " ", "/", "\x00", "\xff",
		".", "..", "...", "....", strings.Repeat(".", api.MaxName),
		"..a", "...a", "..-", ".. ", "../", "../a", "..\x00", "..\xff", "..dot-a", "..bashrc",
		// A point elsewhere.
		"a.", "a..", "a.b", "-.a", " .a", "/.a", "a/.b", "\n.a", "\x00.a",
		// Signs that look like a point, and are none.
		"\u2024a", "\uff0ea", "\u00b7a", ",a", ":a", "-a",
		// What stands for another one.
		"dot-", "dot-a", "dot-.a", "dot-dot-a", "dot",
	}
)

// isTo holds what is told of a name against the one for which it shall stand.
func isTo(t *testing.T, s, want string) {
	t.Helper()
	if got := dots.To(s); got != want {
		t.Errorf("To(%.80q) = %.80q, not %.80q", s, got, want)
	}
	if got := dots.Is(s); got != (want != s) {
		t.Errorf("Is(%.80q) = %v", s, got)
	}
	for _, l := range [][]string{{s}, {"a", s}, {s, "a"}, {"", s, "."}, {s, s}} {
		if got := dots.Any(l); got != (want != s) {
			t.Errorf("Any(%.80q) = %v", l, got)
		}
	}
}

// isFrom holds what From answers against the name that is asked for.
func isFrom(t *testing.T, s, want string) {
	t.Helper()
	if got := dots.From(s); got != want {
		t.Errorf("From(%.80q) = %.80q, not %.80q", s, got, want)
	}
}

// P18.1: To and Is, of names that stand for others, and of such as don't.
func TestTo(t *testing.T) {
	for s, want := range pairs {
		isTo(t, s, want)
	}
	for _, s := range selves {
		isTo(t, s, s)
	}
}

// P18.1: From, of names with a point, and of such as have none, or more.
func TestFrom(t *testing.T) {
	for want, s := range pairs {
		isFrom(t, s, want)
	}
	for _, s := range without {
		isFrom(t, s, s)
	}
	for s, want := range map[string]string{
		".dot-a": "dot-dot-a", ".dot-": "dot-dot-", ".dot": "dot-dot", ".a.": "dot-a.", ".a..": "dot-a..", ".a/.b": "dot-a/.b", "./": "dot-/", "./a": "dot-/a",
	} {
		isFrom(t, s, want)
	}
}

// P18.1: of each byte behind dot-, and behind a point, a point alone may not be.
func TestEachByte(t *testing.T) {
	for c := range 256 {
		b := string([]byte{byte(c)})
		for _, rest := range []string{b, b + b, b + "a", b + ".", b + ".a", b + "dot-a", b + "\xff"} {
			long, short := "dot-"+rest, "."+rest
			if c == '.' {
				isTo(t, long, long)
				isFrom(t, short, short)
				continue
			}
			isTo(t, long, short)
			isFrom(t, short, long)
		}
	}
}

// P18.1: each byte of dot- must be just that one, and so must a point.
func TestEachOtherByte(t *testing.T) {
	for i, c := range []byte("dot-a") {
		for b := range 256 {
			s := []byte("dot-a")
			if s[i] = byte(b); byte(b) != c && i < 4 {
				isTo(t, string(s), string(s))
			}
		}
	}
	for b := range 256 {
		if s := string([]byte{byte(b)}) + "a"; b != '.' {
			isFrom(t, s, s)
		}
	}
}

var (
	standsFor = regexp.MustCompile(`(?s)\Adot-([^.].*)\z`)
	hasPoint  = regexp.MustCompile(`(?s)\A\.([^.].*)\z`)
)

// replaced answers s with what to says, if p takes it, else s.
func replaced(p *regexp.Regexp, s, to string) string {
	if m := p.FindStringSubmatch(s); m != nil {
		return to + m[1]
	}
	return s
}

// eachJoined does something with all texts of up to n of these pieces.
func eachJoined(pieces []string, n int, do func(s string)) {
	do("")
	if n == 0 {
		return
	}
	var grow func(s string, n int)
	grow = func(s string, n int) {
		for _, p := range pieces {
			do(s + p)
			if n > 1 {
				grow(s+p, n-1)
			}
		}
	}
	grow("", n)
}

// slowWay goes through a way byte by byte.
func slowWay(s string, on bool) string {
	out, part := "", ""
	for _, c := range []byte(s + "/") {
		if c != '/' {
			part += string([]byte{c})
			continue
		}
		if part != "" && part != "." {
			if on {
				part = replaced(standsFor, part, ".")
			}
			if out != "" {
				out += "/"
			}
			out += part
		}
		part = ""
	}
	return out
}

// P18.1, P18.2, P18.3: of all texts of a few pieces what regular expressions tell.
func TestLikeReference(t *testing.T) {
	eachJoined([]string{"dot-", "dot", "-", ".", "a", "/", "\n", "D", "t-"}, 5, func(s string) {
		to, from := replaced(standsFor, s, "."), replaced(hasPoint, s, "dot-")
		if got := dots.To(s); got != to {
			t.Fatalf("To(%q) = %q, not %q", s, got, to)
		}
		if got := dots.From(s); got != from {
			t.Fatalf("From(%q) = %q, not %q", s, got, from)
		}
		if got := dots.Is(s); got != (to != s) {
			t.Fatalf("Is(%q) = %v", s, got)
		}
		leadsBack(t, s)
		for _, on := range []bool{true, false} {
			if got, want := dots.Way(s, on), slowWay(s, on); got != want {
				t.Fatalf("Way(%q, %v) = %q, not %q", s, on, got, want)
			}
		}
	})
}

// P18.1: of all texts of the letters of dot- and a few more.
func TestShort(t *testing.T) {
	eachJoined(strings.Split("dot-.a", ""), 6, func(s string) {
		if got, want := dots.To(s), replaced(standsFor, s, "."); got != want {
			t.Fatalf("To(%q) = %q, not %q", s, got, want)
		}
		if got, want := dots.From(s), replaced(hasPoint, s, "dot-"); got != want {
			t.Fatalf("From(%q) = %q, not %q", s, got, want)
		}
		leadsBack(t, s)
	})
}

// isWay holds what Way answers against what is asked for.
func isWay(t *testing.T, s string, on bool, want string) {
	t.Helper()
	if got := dots.Way(s, on); got != want {
		t.Errorf("Way(%.80q, %v) = %.80q, not %.80q", s, on, got, want)
	}
}

// P18.2: ways, with what they are on, and what they are if not: of their parts alone, and with one slash between.
func TestWay(t *testing.T) {
	for s, want := range map[string][2]string{
		"dot-a/b":                 {".a/b", "dot-a/b"},
		"a/dot-b":                 {"a/.b", "a/dot-b"},
		"dot-a/dot-b":             {".a/.b", "dot-a/dot-b"},
		"dot-a/b/dot-c":           {".a/b/.c", "dot-a/b/dot-c"},
		"a/dot-b/c":               {"a/.b/c", "a/dot-b/c"},
		"dot-a":                   {".a", "dot-a"},
		"a":                       {"a", "a"},
		"a/b/c":                   {"a/b/c", "a/b/c"},
		"dot-config/dot-x/a.conf": {".config/.x/a.conf", "dot-config/dot-x/a.conf"},
		"dot-a/dot-a/dot-a":       {".a/.a/.a", "dot-a/dot-a/dot-a"},
		// Parts that stand for themselves, among others.
		"dot-/a":                       {"dot-/a", "dot-/a"},
		"dot-/dot-a":                   {"dot-/.a", "dot-/dot-a"},
		"dot-a/dot-":                   {".a/dot-", "dot-a/dot-"},
		"dot-./a":                      {"dot-./a", "dot-./a"},
		"dot-a/dot-.b":                 {".a/dot-.b", "dot-a/dot-.b"},
		"dot-../dot-b":                 {"dot-../.b", "dot-../dot-b"},
		"a-dot-b/dot-c":                {"a-dot-b/.c", "a-dot-b/dot-c"},
		"Dot-a/dot-b":                  {"Dot-a/.b", "Dot-a/dot-b"},
		"dot-dot-a/b":                  {".dot-a/b", "dot-dot-a/b"},
		"dot-dot-a/dot-dot-dot-b":      {".dot-a/.dot-dot-b", "dot-dot-a/dot-dot-dot-b"},
		".a/.b":                        {".a/.b", ".a/.b"},
		".dot-a/.b":                    {".dot-a/.b", ".dot-a/.b"},
		"dot-\n/dot-\xff":              {".\n/.\xff", "dot-\n/dot-\xff"},
		"dot--/dot- ":                  {".-/. ", "dot--/dot- "},
		"dot-a\\/dot-b":                {".a\\/.b", "dot-a\\/dot-b"},
		"dot-" + full + "/dot-" + full: {"." + full + "/." + full, "dot-" + full + "/dot-" + full},
		// What is empty, and what is one point, is no part.
		"":                   {"", ""},
		"/":                  {"", ""},
		"//":                 {"", ""},
		".":                  {"", ""},
		"./":                 {"", ""},
		"/.":                 {"", ""},
		"././/.":             {"", ""},
		"/dot-a":             {".a", "dot-a"},
		"//dot-a":            {".a", "dot-a"},
		"dot-a/":             {".a", "dot-a"},
		"dot-a//":            {".a", "dot-a"},
		"/dot-a/b/":          {".a/b", "dot-a/b"},
		"./dot-a":            {".a", "dot-a"},
		"dot-a/.":            {".a", "dot-a"},
		"dot-a//b/dot-c":     {".a/b/.c", "dot-a/b/dot-c"},
		"dot-a/./dot-b":      {".a/.b", "dot-a/dot-b"},
		"dot-a/././/dot-b/.": {".a/.b", "dot-a/dot-b"},
		"a//b":               {"a/b", "a/b"},
		"a/./b":              {"a/b", "a/b"},
		"a/":                 {"a", "a"},
		"/a":                 {"a", "a"},
		// Two points are a part that takes nothing away.
		"..":                {"..", ".."},
		"../..":             {"../..", "../.."},
		"../dot-a":          {"../.a", "../dot-a"},
		"dot-a/..":          {".a/..", "dot-a/.."},
		"dot-a/../dot-b":    {".a/../.b", "dot-a/../dot-b"},
		"dot-a/.../dot-b":   {".a/.../.b", "dot-a/.../dot-b"},
		"/../dot-a/./../b/": {"../.a/../b", "../dot-a/../b"},
	} {
		isWay(t, s, true, want[0])
		isWay(t, s, false, want[1])
	}
}

// P18.2: of a way of one part To of that, if it has no slash.
func TestWayOfOne(t *testing.T) {
	one := func(s, want string) {
		if s == "." || strings.Contains(s, "/") {
			return
		}
		isWay(t, s, true, want)
		isWay(t, s, false, s)
		if s != "" {
			isWay(t, "x/"+s+"/"+s, true, "x/"+want+"/"+want)
			isWay(t, "x/"+s+"/"+s, false, "x/"+s+"/"+s)
		}
	}
	for s, want := range pairs {
		one(s, want)
	}
	for _, s := range slices.Concat(selves, without) {
		one(s, replaced(standsFor, s, "."))
	}
}

// P18.2: Any, of no names, of such as don't stand for others, and of some of which one does, wherever it is.
func TestAny(t *testing.T) {
	if dots.Any(nil) || dots.Any([]string{}) || dots.Any([]string{""}) {
		t.Error("Any of nothing")
	}
	if dots.Any(selves) {
		t.Error("Any of names that stand for themselves")
	}
	for n := 1; n <= 6; n++ {
		for i := range n {
			l := slices.Repeat([]string{"a"}, n)
			if dots.Any(l) {
				t.Errorf("Any(%q)", l)
			}
			if l[i] = "dot-"; dots.Any(l) {
				t.Errorf("Any(%q)", l)
			}
			if l[i] = ".a"; dots.Any(l) {
				t.Errorf("Any(%q)", l)
			}
			if l[i] = "dot-b"; !dots.Any(l) {
				t.Errorf("not Any(%q)", l)
			}
		}
	}
	for _, s := range selves {
		if l := []string{s, "dot-x", s}; !dots.Any(l) {
			t.Errorf("not Any(%.80q)", l)
		}
	}
	// Names are asked one by one: not as they are put together, nor by their parts.
	for _, l := range [][]string{{"dot", "-a"}, {"dot-", "a"}, {"a/dot-b"}, {"d", "ot-a"}, {"dot-", ".", "a"}} {
		if dots.Any(l) {
			t.Errorf("Any(%q)", l)
		}
	}
}

// leadsBack asks for both ways back.
func leadsBack(t *testing.T, s string) {
	t.Helper()
	if dots.Is(s) && dots.From(dots.To(s)) != s {
		t.Fatalf("To(%.80q) = %.80q, and From that %.80q", s, dots.To(s), dots.From(dots.To(s)))
	}
	if strings.HasPrefix(s, ".") && !strings.HasPrefix(s, "..") && dots.To(dots.From(s)) != s {
		t.Fatalf("From(%.80q) = %.80q, and To that %.80q", s, dots.From(s), dots.To(dots.From(s)))
	}
}

// P18.3: From leads back from To, and To from From.
func TestBack(t *testing.T) {
	for s, want := range pairs {
		leadsBack(t, s)
		leadsBack(t, want)
		if strings.HasPrefix(want, ".") && (dots.From(want) != s || dots.To(s) != want) {
			t.Errorf("%.80q, %.80q", s, want)
		}
	}
	for _, s := range slices.Concat(selves, without) {
		leadsBack(t, s)
	}
	for _, s := range []string{".", ". ", ".-", ".a", ".a.", "." + full, ".\xff"} {
		if got := dots.To(dots.From(s)); got != s {
			t.Errorf("To(From(%.80q)) = %.80q", s, got)
		}
	}
}

// P18.1: no name stands for one point, or for what begins with two; a right name stands for a right one, and a wrong one for a wrong one.
func TestStandsForRight(t *testing.T) {
	eachJoined([]string{"dot-", ".", "a", "-"}, 5, func(s string) {
		got := dots.To(s)
		if dots.Is(s) && (got == "." || strings.HasPrefix(got, "..")) {
			t.Fatalf("To(%q) = %q", s, got)
		}
		if name.Right(s) != name.Right(got) {
			t.Fatalf("To(%q) = %q, of which one is right", s, got)
		}
	})
}

// R3: the list that is handed in isn't changed.
func TestAnyKeepsItsList(t *testing.T) {
	l := []string{"b", "dot-a", "a", "dot-a", ".c", ""}
	was := slices.Clone(l)
	dots.Any(l)
	dots.Any(l[:1])
	if !slices.Equal(l, was) {
		t.Errorf("Any made its list %q, of %q", l, was)
	}
}

// R4: what was asked ahead changes nothing.
func TestNothingKept(t *testing.T) {
	for range 3 {
		for s, want := range pairs {
			isTo(t, s, want)
			isFrom(t, want, s)
		}
		isWay(t, "dot-a/b", true, ".a/b")
		isWay(t, "dot-a/b", false, "dot-a/b")
		isWay(t, "dot-a/b", true, ".a/b")
	}
}

// Long names, long ways, and lists of many names are gone through at once.
func TestLong(t *testing.T) {
	const n = 1 << 20
	begun := time.Now()
	rest := strings.Repeat("a", n)
	isTo(t, "dot-"+rest, "."+rest)
	isFrom(t, "."+rest, "dot-"+rest)
	isTo(t, strings.Repeat("dot-", n), "."+strings.Repeat("dot-", n-1))
	isTo(t, "dot-"+strings.Repeat(".", n), "dot-"+strings.Repeat(".", n))
	isFrom(t, strings.Repeat(".", n), strings.Repeat(".", n))
	isWay(t, strings.Repeat("dot-a/", n), true, strings.Repeat(".a/", n-1)+".a")
	isWay(t, strings.Repeat("dot-a//./", n), false, strings.Repeat("dot-a/", n-1)+"dot-a")
	isWay(t, strings.Repeat("/", n), true, "")
	l := slices.Repeat([]string{"dot-"}, n)
	if dots.Any(l) || !dots.Any(append(l, "dot-a")) {
		t.Error("Any of many names")
	}
	if d := time.Since(begun); d > 20*time.Second {
		t.Errorf("it took %v", d)
	}
}
