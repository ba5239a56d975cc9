package class_test

import (
	"math/rand"
	"regexp"
	"strings"
	"testing"

	"linhay/api"
	"linhay/class"
)

// nothing is the set without bytes.
var nothing = strings.Repeat("0", 256)

// has is a set as a table.
type has [256]bool

// setOf answers the set of the bytes of which a function is true.
func setOf(in func(c int) bool) string {
	var b strings.Builder
	for c := range 256 {
		if in(c) {
			b.WriteString("1")
		} else {
			b.WriteString("0")
		}
	}
	return b.String()
}

// text answers a table's set.
func (h has) text() string { return setOf(func(c int) bool { return h[c] }) }

// of answers the set of the bytes of s.
func of(s string) string {
	var h has
	for i := range len(s) {
		h[s[i]] = true
	}
	return h.text()
}

// but answers the set of the bytes that s hasn't.
func but(s string) string {
	var h has
	for i := range len(s) {
		h[s[i]] = true
	}
	return setOf(func(c int) bool { return !h[c] })
}

// chanceSets answers some sets, the ones at the edges among them.
func chanceSets() []string {
	l := []string{nothing, strings.Repeat("1", 256), of("\x00"), of("\xff"), but("\x00"), but("\xff"), of("01"), but("01")}
	chance := rand.New(rand.NewSource(13))
	for n := range 60 {
		few := 1 + n%9
		l = append(l, setOf(func(int) bool { return chance.Intn(few) == 0 }))
	}
	return l
}

// noSets answers texts that are no sets.
func noSets() []string {
	all := strings.Repeat("1", 256)
	l := []string{"", "0", "1", "odd", all[1:], all + "1", all + all, nothing[1:], nothing + "0", "1" + nothing, strings.Repeat("\x00", 256), strings.Repeat("\x01", 256), strings.Repeat("2", 256), strings.Repeat("\u0661", 128), strings.Repeat("1", 1<<20)}
	for _, wrong := range []string{"2", "/", "\x00", "\x01", " ", "a", "\xb1", "\xff"} {
		for c := range 256 {
			l = append(l, all[:c]+wrong+all[c+1:])
		}
	}
	return l
}

// P13.1: Has asks for the byte at the place c.
func TestHas(t *testing.T) {
	for _, set := range chanceSets() {
		for c := range 256 {
			if class.Has(set, byte(c)) != (set[c] == '1') {
				t.Fatalf("%q: %d", set, c)
			}
		}
	}
}

// P13.1: One and Span, of all bytes and pairs of them.
func TestSpan(t *testing.T) {
	for a := range 256 {
		if s := class.One(byte(a)); s != setOf(func(c int) bool { return c == a }) {
			t.Fatalf("one %d: %q", a, s)
		}
		for b := range 256 {
			if s := class.Span(byte(a), byte(b)); s != setOf(func(c int) bool { return a <= c && c <= b }) {
				t.Fatalf("%d to %d: %q", a, b, s)
			}
		}
	}
}

// P13.1: Union and Not, of pairs of sets.
func TestUnion(t *testing.T) {
	l := chanceSets()
	for _, a := range l {
		if s := class.Not(a); s != setOf(func(c int) bool { return a[c] == '0' }) {
			t.Fatalf("not %q: %q", a, s)
		}
		for _, b := range l {
			if s := class.Union(a, b); s != setOf(func(c int) bool { return a[c] == '1' || b[c] == '1' }) {
				t.Fatalf("%q and %q: %q", a, b, s)
			}
		}
	}
}

// P13.1: Count.
func TestCount(t *testing.T) {
	for _, set := range chanceSets() {
		n := 0
		for c := range 256 {
			if set[c] == '1' {
				n++
			}
		}
		if class.Count(set) != n {
			t.Fatalf("%q: %d, not %d", set, class.Count(set), n)
		}
	}
	for a := range 256 {
		for b := range 256 {
			if n := class.Count(class.Span(byte(a), byte(b))); n != max(0, b-a+1) {
				t.Fatalf("%d to %d: %d", a, b, n)
			}
		}
	}
}

// P13.1: another text is a set without bytes; it is told as 256 times 0.
func TestNoSet(t *testing.T) {
	few := of("abc")
	for _, s := range noSets() {
		for c := range 256 {
			if class.Has(s, byte(c)) {
				t.Fatalf("%.300q has %d", s, c)
			}
		}
		if class.Count(s) != 0 || class.Not(s) != strings.Repeat("1", 256) || class.Not(class.Not(s)) != nothing {
			t.Fatalf("%.300q: %d", s, class.Count(s))
		}
		if class.Union(s, few) != few || class.Union(few, s) != few || class.Union(s, s) != nothing || class.Union(s, "") != nothing {
			t.Fatalf("%.300q: union", s)
		}
	}
}

// P13.2: the letters' sets.
func TestNamed(t *testing.T) {
	digits, spaces := "0123456789", "\t\n\v\f\r "
	word := digits + "abcdefghijklmnopqrstuvwxyzABCDEFGHIJKLMNOPQRSTUVWXYZ_"
	want := map[byte]string{'d': of(digits), 'w': of(word), 's': of(spaces), 'D': but(digits), 'W': but(word), 'S': but(spaces)}
	for c := range 256 {
		set, ok := class.Named(byte(c))
		named, in := want[byte(c)]
		if !in {
			named = nothing
		}
		if ok != in || set != named {
			t.Fatalf("%d: %q %v", c, set, ok)
		}
	}
}

// told is what Parse answers.
type told struct {
	set  string
	size int
	err  api.Errno
}

// parsed answers what Parse tells of s.
func parsed(s string) told {
	set, n, e := class.Parse(s)
	return told{set, n, e}
}

// refused answers a fault as Parse tells it.
func refused(e api.Errno) told { return told{nothing, 0, e} }

// What a set's text goes on with, where bytes are told as runes of the same numbers.
var (
	wrongEnd  = regexp.MustCompile(`(?s)^(\\[dwsDWS]-[^\]]|(\\.|[^\\])-\\[dwsDWS])`)
	spanItem  = regexp.MustCompile(`(?s)^\\?(.)-(\\(.)|([^\]\\]))`)
	namedItem = regexp.MustCompile(`^\\([dwsDWS])`)
	byteItem  = regexp.MustCompile(`(?s)^(\\(.)|([^\\]))`)
)

// runesOf answers a text with a rune for each byte.
func runesOf(s string) string {
	l := make([]rune, len(s))
	for i := range len(s) {
		l[i] = rune(s[i])
	}
	return string(l)
}

// runeOf answers the one rune of s.
func runeOf(s string) rune { return []rune(s)[0] }

// slowItem adds the item that s begins with, and answers how many bytes of s it takes.
func slowItem(h *has, s string) (int, api.Errno) {
	if wrongEnd.MatchString(s) {
		return 0, api.ErrForm
	}
	// A backslash alone is no byte, so what begins with one takes what is behind it.
	if m := spanItem.FindStringSubmatch(s); m != nil && (s[0] != '\\' || strings.HasPrefix(m[0], "\\"+m[1]+"-")) {
		a, b := runeOf(m[1]), runeOf(m[3]+m[4])
		if a > b {
			return 0, api.ErrRange
		}
		for c := a; c <= b; c++ {
			h[c] = true
		}
		return len(m[0]), api.OK
	}
	if m := namedItem.FindStringSubmatch(s); m != nil {
		set, _ := class.Named(m[1][0])
		for c := range 256 {
			h[c] = h[c] || set[c] == '1'
		}
		return len(m[0]), api.OK
	}
	if m := byteItem.FindStringSubmatch(s); m != nil {
		h[runeOf(m[2]+m[3])] = true
		return len(m[0]), api.OK
	}
	return 0, api.ErrForm
}

// slowParse is Parse by regular expressions for what comes next.
func slowParse(s string) told {
	u := runesOf(s)
	rest, ok := strings.CutPrefix(u, "[")
	if !ok {
		return refused(api.ErrForm)
	}
	rest, not := strings.CutPrefix(rest, "^")
	var h has
	for first := true; first || !strings.HasPrefix(rest, "]"); first = false {
		n, e := slowItem(&h, rest)
		if e != api.OK {
			return refused(e)
		}
		rest = rest[n:]
	}
	set := setOf(func(c int) bool { return h[c] != not })
	return told{set, len(s) - len([]rune(rest)) + 1, api.OK}
}

// textsOf calls a function with all texts of at most n of some letters.
func textsOf(letters string, n int, f func(s string)) {
	f("")
	if n == 0 {
		return
	}
	for i := range len(letters) {
		textsOf(letters, n-1, func(s string) { f(letters[i:i+1] + s) })
	}
}

// P13.3: what sets there are.
func TestParse(t *testing.T) {
	word, _ := class.Named('w')
	for s, want := range map[string]string{
		"[a]": of("a"), "[abc]": of("abc"), "[aa]": of("a"), "[^abc]": but("abc"), "[a^]": of("a^"), "[^^]": but("^"), "[^^^]": but("^"), "[[]": of("["), "[[[]": of("["), "[(|)*]": of("(|)*"),
		"[]]": of("]"), "[]a]": of("]a"), "[^]]": but("]"), "[^]a]": but("]a"), "[]^]": of("]^"), `[\]]`: of("]"), `[a\]]`: of("a]"), `[^a\]]`: but("a]"), `[\^]`: of("^"), `[\^a]`: of("^a"), `[\[]`: of("["),
		"[a-c]": of("abc"), "[a-a]": of("a"), "[^a-c]": but("abc"), "[a-cx-z]": of("abcxyz"), "[0-9a-f]": of("0123456789abcdef"), "[c-ea-d]": of("abcde"), "[\x00-\xff]": but(""), "[^\x00-\xff]": nothing, "[\xfe-\xff]": of("\xfe\xff"), "[ä]": of("\xc3\xa4"),
		"[-]": of("-"), "[-a]": of("-a"), "[a-]": of("a-"), "[^-]": but("-"), "[^-a]": but("-a"), "[^a-]": but("a-"), "[-a-]": of("-a"), "[--]": of("-"), "[---]": of("-"), "[--/]": of("-./"), "[+--]": of("+,-"), "[*--.]": of("*+,-."),
		"[a-b-c]": of("ab-c"), "[a-b-]": of("ab-"), "[a-c-e-g]": of("abc-efg"), "[a-b--/]": of("ab-./"), "[a-b---]": of("ab-"), "[a-c-^]": of("abc-^"),
		"[]-a]": of("]^_`a"), "[^]-a]": but("]^_`a"), "[Z-\\]]": of("Z[\\]"), "[]-]": of("]-"), "[]-\\]]": of("]"), `[\]-a]`: of("]^_`a"), "[[-]": of("[-"), "[^-`]": but("-`"), "[a^-`]": of("a^_`"), `[\^-a]`: of("^_`a"),
		`[\d]`: of("0123456789"), `[\d\s]`: of("0123456789\t\n\v\f\r "), `[^\W]`: word, `[\w]`: word, `[^\w]`: class.Not(word), `[\d\D]`: but(""), `[^\s\S]`: nothing, `[\da]`: of("0123456789a"), `[a\d]`: of("0123456789a"),
		`[\d-]`: of("0123456789-"), `[-\d]`: of("0123456789-"), `[a-b-\d]`: of("ab-0123456789"), `[^\d-]`: but("0123456789-"), `[\S-]`: but("\t\n\v\f\r "),
		`[\\]`: of("\\"), `[\-]`: of("-"), `[a\-z]`: of("a-z"), `[\a-\c]`: of("abc"), `[a-\c]`: of("abc"), `[\--\/]`: of("-./"), `[\--/]`: of("-./"), `[+-\-]`: of("+,-"), `[[-\\]`: of("[\\"), `[\\-\]]`: of("\\]"), "[\\\n]": of("\n"), "[\\\x00-\\\x02]": of("\x00\x01\x02"), "[\\\xff]": of("\xff"), `[\n]`: of("n"), `[\e-\f]`: of("ef"), "[\n]": of("\n"),
		"[^a-c\\d]": setOf(func(c int) bool { return !(c >= 'a' && c <= 'c' || c >= '0' && c <= '9') }),
	} {
		for _, more := range []string{"", "]", "x", "*", "]]", "[", "[]", "-z]", "-]", "\\", "^", "\x00"} {
			if g := parsed(s + more); g != (told{want, len(s), api.OK}) {
				t.Errorf("%q: %v, not %v", s+more, g, want)
			}
		}
	}
	if set, n, e := class.Parse(`[^a-c\d]`); e != api.OK || n != 8 || class.Count(set) != 243 {
		t.Errorf("the chapter's example: %d %d %v", class.Count(set), n, e)
	}
}

// P13.3: what is refused, by what is met first.
func TestParseWrong(t *testing.T) {
	for s, want := range map[string]api.Errno{
		"": api.ErrForm, "a": api.ErrForm, "a]": api.ErrForm, "]": api.ErrForm, "^a]": api.ErrForm, " [a]": api.ErrForm, `\[a]`: api.ErrForm, "x[c-a]": api.ErrForm,
		"[": api.ErrForm, "[^": api.ErrForm, "[]": api.ErrForm, "[^]": api.ErrForm, "[a": api.ErrForm, "[a-": api.ErrForm, "[a-b": api.ErrForm, "[-": api.ErrForm, "[--": api.ErrForm, "[^-": api.ErrForm, `[\`: api.ErrForm, `[a\`: api.ErrForm, `[a-\`: api.ErrForm, `[\]`: api.ErrForm, `[]\]`: api.ErrForm, "[]-": api.ErrForm, "[]-a": api.ErrForm, `[\d`: api.ErrForm, `[\d-`: api.ErrForm, `[a-\]`: api.ErrRange,
		"[b-a]": api.ErrRange, "[b-a": api.ErrRange, "[^b-a]": api.ErrRange, "[c-a-]": api.ErrRange, "[\xff-\x00]": api.ErrRange, "[\x80-a]": api.ErrRange, "[a--]": api.ErrRange, "[a-[]": api.ErrRange, "[]-A]": api.ErrRange, "[]-[": api.ErrRange, `[c-\a]`: api.ErrRange, `[\c-a]`: api.ErrRange, `[\c-\a`: api.ErrRange, `[c-\`: api.ErrForm, `[\c-\`: api.ErrForm, "[a-b-c-b]": api.ErrRange, "[a--z]": api.ErrRange,
		`[\d-x]`: api.ErrForm, `[a-\d]`: api.ErrForm, `[\d-\d]`: api.ErrForm, `[\d--]`: api.ErrForm, `[\w-\]]`: api.ErrForm, `[--\d]`: api.ErrForm, `[z-\D]`: api.ErrForm, `[\S-a]`: api.ErrForm, `[ -\s]`: api.ErrForm, `[z-\W]`: api.ErrForm,
		`[b-a\d-x]`: api.ErrRange, `[\d-xb-a]`: api.ErrForm, `[a-\db-a]`: api.ErrForm, `[b-aa-\d]`: api.ErrRange, `[z-\d-a]`: api.ErrForm, `[a]b-a]`: api.OK, "[a][": api.OK, "[a]b-a]x": api.OK,
	} {
		g := parsed(s)
		if want == api.OK {
			if g != (told{of("a"), 3, api.OK}) {
				t.Errorf("%q: %v", s, g)
			}
			continue
		}
		if g != refused(want) {
			t.Errorf("%q: %v, not %v", s, g, want)
		}
	}
}

// P13.3: all short texts, as regular expressions tell what comes next.
func TestParseShort(t *testing.T) {
	check := func(s string) {
		if g, want := parsed(s), slowParse(s); g != want {
			t.Fatalf("%q: %v, not %v", s, g, want)
		}
	}
	textsOf("[]^-\\ab", 4, check)
	textsOf("]-\\ab", 6, func(s string) { check("[" + s) })
	textsOf("]^-\\da", 5, func(s string) { check("[" + s) })
	textsOf("]-\\zd", 5, func(s string) { check("[^" + s) })
}

// P13.3: an item of each byte, of each byte behind a backslash, and Spans of all pairs of bytes.
func TestParseBytes(t *testing.T) {
	for a := range 256 {
		one := string([]byte{byte(a)})
		for _, s := range []string{"[" + one + "]", "[^" + one + "]", "[x" + one + "]", "[\\" + one + "]", "[^\\" + one + "]", "[\\" + one + "-]", "[-" + one + "]", "[!-\\" + one + "]"} {
			if g, want := parsed(s), slowParse(s); g != want {
				t.Fatalf("%q: %v, not %v", s, g, want)
			}
		}
		for b := range 256 {
			s := "[" + one + "-" + string([]byte{byte(b)}) + "]"
			if g, want := parsed(s), slowParse(s); g != want {
				t.Fatalf("%q: %v, not %v", s, g, want)
			}
		}
	}
}

// P13.3: longer texts by chance.
func TestParseChance(t *testing.T) {
	chance := rand.New(rand.NewSource(133))
	parts := []string{"]", "-", "^", "[", "\\", "\\d", "\\W", "\\s", "a", "b", "z", "0", "9", "a-z", "\\a-c", "0-\\9", "\x00", "\xff", "\x80-\xff", "\\]", "\\-", "--", "\n", "é", "b-a"}
	right := 0
	for range 60000 {
		s := "["
		for range chance.Intn(9) {
			s += parts[chance.Intn(len(parts))]
		}
		s += []string{"]", "]x", ""}[chance.Intn(3)]
		g, want := parsed(s), slowParse(s)
		if g != want {
			t.Fatalf("%q: %v, not %v", s, g, want)
		}
		if g.err == api.OK {
			right++
		}
	}
	if right < 10000 {
		t.Errorf("only %d were right", right)
	}
}

// P13.3, P13.4: what is told is a set, and a ^ tells Not of what is told without it.
func TestParseNot(t *testing.T) {
	textsOf("]-\\ad", 5, func(s string) {
		plain, not := parsed("["+s), parsed("[^"+s)
		if strings.HasPrefix(s, "^") {
			return
		}
		want := refused(plain.err)
		if plain.err == api.OK {
			want = told{class.Not(plain.set), plain.size + 1, api.OK}
		}
		if not != want {
			t.Fatalf("%q: %v, not %v", s, not, want)
		}
	})
}

// P13.4: Not of Not is the set; a byte belongs to a set or to Not of it.
func TestNotNot(t *testing.T) {
	l := chanceSets()
	for _, c := range []byte("dwsDWS") {
		set, _ := class.Named(c)
		l = append(l, set, class.One(c), class.Span(c, 200))
	}
	for _, set := range l {
		not := class.Not(set)
		if class.Not(not) != set || class.Count(not) != 256-class.Count(set) || class.Union(set, not) != but("") {
			t.Fatalf("%q: %q", set, not)
		}
		for c := range 256 {
			if class.Has(set, byte(c)) == class.Has(not, byte(c)) {
				t.Fatalf("%q: %d", set, c)
			}
		}
	}
	for _, s := range noSets()[:40] {
		for c := range 256 {
			if class.Has(s, byte(c)) == class.Has(class.Not(s), byte(c)) {
				t.Fatalf("%.300q: %d", s, c)
			}
		}
	}
}

// R1: long texts end soon.
func TestLong(t *testing.T) {
	const n = 1 << 20
	for s, want := range map[string]told{
		"[" + strings.Repeat("a", n) + "]":               {of("a"), n + 2, api.OK},
		"[" + strings.Repeat("\\S", n/2) + "]":           {but("\t\n\v\f\r "), n + 2, api.OK},
		"[" + strings.Repeat("\x00-\xff", n/4) + "]":     {but(""), n/4*3 + 2, api.OK},
		"[^" + strings.Repeat("-", n) + "]":              {but("-"), n + 3, api.OK},
		"[" + strings.Repeat("[", n):                     refused(api.ErrForm),
		"[]" + strings.Repeat("-", n):                    refused(api.ErrRange),
		strings.Repeat("]", n):                           refused(api.ErrForm),
		"[" + strings.Repeat("a-z-", n/4) + "z-a":        refused(api.ErrRange),
		"[" + strings.Repeat("\\", n) + "]":              {of("\\"), n + 2, api.OK},
		"[" + strings.Repeat("\\", n+1) + "]":            refused(api.ErrForm),
		"[a]" + strings.Repeat("[", n):                   {of("a"), 3, api.OK},
		"[^" + strings.Repeat("\\d\\D", n/4) + "]" + "x": {nothing, n + 3, api.OK},
	} {
		if g := parsed(s); g != want {
			t.Errorf("%.20q: %v, not %v", s, g, want)
		}
	}
}
