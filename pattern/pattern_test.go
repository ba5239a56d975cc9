package pattern_test

import (
	"math/rand"
	"regexp"
	"slices"
	"strconv"
	"strings"
	"testing"

	"linhay/api"
	"linhay/class"
	"linhay/pattern"
)

// same tells whether two pieces are one, field by field.
func same(p, q api.Piece) bool {
	return p.Kind == q.Kind && p.Text == q.Text && p.Least == q.Least && p.Top == q.Top && slices.EqualFunc(p.Kids, q.Kids, same)
}

// isZero tells whether a piece is the zero one.
func isZero(p api.Piece) bool { return same(p, api.Piece{}) }

// plain answers a piece with nothing but a kind.
func plain(kind int) api.Piece { return api.Piece{Kind: kind} }

// char answers a byte's piece.
func char(s string) api.Piece { return api.Piece{Kind: api.PChar, Text: s} }

// set answers a set's piece, told by the set as the layer below parses it.
func set(s string) api.Piece {
	t, _, _ := class.Parse(s)
	return api.Piece{Kind: api.PSet, Text: t}
}

// seq, alt and rep answer pieces of pieces.
func seq(l ...api.Piece) api.Piece { return api.Piece{Kind: api.PSeq, Kids: l} }
func alt(l ...api.Piece) api.Piece { return api.Piece{Kind: api.PAlt, Kids: l} }
func rep(p api.Piece, least, top int) api.Piece {
	return api.Piece{Kind: api.PRepeat, Kids: []api.Piece{p}, Least: least, Top: top}
}

// brief tells a piece for a message.
func brief(p api.Piece) string {
	b := strconv.Itoa(p.Kind)
	if p.Text != "" {
		b += strconv.Quote(p.Text)
	}
	if p.Least != 0 || p.Top != 0 {
		b += "{" + strconv.Itoa(p.Least) + "," + strconv.Itoa(p.Top) + "}"
	}
	if len(p.Kids) == 0 {
		return b
	}
	var l []string
	for _, k := range p.Kids {
		l = append(l, brief(k))
	}
	return b + "(" + strings.Join(l, " ") + ")"
}

// level is what stands in one bracket, as far as a slow parser came.
type level struct{ rows, parts []api.Piece }

// endRow puts the parts that were met together as a row.
func (l *level) endRow() {
	switch len(l.parts) {
	case 0:
		l.rows = append(l.rows, plain(api.PEmpty))
	case 1:
		l.rows = append(l.rows, l.parts[0])
	default:
		l.rows = append(l.rows, seq(l.parts...))
	}
	l.parts = nil
}

// end answers what stands in the bracket.
func (l *level) end() api.Piece {
	l.endRow()
	if len(l.rows) == 1 {
		return l.rows[0]
	}
	return alt(l.rows...)
}

var braces = regexp.MustCompile(`^\{([0-9]{1,3})(,?)([0-9]{0,3})\}`)

// slowTimes answers how often the part's atom is asked for by what s begins with: a sign or braces.
func slowTimes(s string) (least, top, n int, e api.Errno) {
	switch s[0] {
	case '*':
		return 0, -1, 1, api.OK
	case '+':
		return 1, -1, 1, api.OK
	case '?':
		return 0, 1, 1, api.OK
	}
	m := braces.FindStringSubmatch(s)
	if m == nil || m[2] == "" && m[3] != "" {
		return 0, 0, 0, api.ErrForm
	}
	least, _ = strconv.Atoi(m[1])
	top = least
	if m[2] == "," {
		top = -1
	}
	if m[3] != "" {
		top, _ = strconv.Atoi(m[3])
	}
	if least > 100 || top > 100 || top >= 0 && least > top {
		return 0, 0, 0, api.ErrRange
	}
	return least, top, len(m[0]), api.OK
}

// slowAtom answers the atom that s begins with, no bracket.
func slowAtom(s string) (api.Piece, int, api.Errno) {
	switch {
	case s[0] == '[':
		t, n, e := class.Parse(s)
		return api.Piece{Kind: api.PSet, Text: t}, n, e
	case s == `\`:
		return api.Piece{}, 0, api.ErrForm
	case s[0] == '\\' && strings.Contains("dwsDWS", s[1:2]):
		t, _ := class.Named(s[1])
		return api.Piece{Kind: api.PSet, Text: t}, 2, api.OK
	case s[0] == '\\':
		return char(s[1:2]), 2, api.OK
	case s[0] == '.':
		return plain(api.PAny), 1, api.OK
	case s[0] == '^':
		return plain(api.PBegin), 1, api.OK
	case s[0] == '$':
		return plain(api.PEnd), 1, api.OK
	}
	return char(s[:1]), 1, api.OK
}

// slow parses a pattern without calling itself: what stands in brackets lies on a stack of levels.
func slow(s string) (api.Piece, int, api.Errno) {
	stack := []level{{}}
	atom := false // may what is last be asked for more often
	for i := 0; i < len(s); {
		last := &stack[len(stack)-1]
		switch c := s[i]; c {
		case '*', '+', '?', '{':
			if !atom {
				return api.Piece{}, i, api.ErrForm
			}
			least, top, n, e := slowTimes(s[i:])
			if e != api.OK {
				return api.Piece{}, i, e
			}
			last.parts[len(last.parts)-1] = rep(last.parts[len(last.parts)-1], least, top)
			atom = false
			i += n
		case '|':
			last.endRow()
			atom = false
			i++
		case '(':
			if len(stack) == 65 {
				return api.Piece{}, i, api.ErrMany
			}
			stack = append(stack, level{})
			atom = false
			i++
		case ')':
			if len(stack) == 1 {
				return api.Piece{}, i, api.ErrForm
			}
			p := last.end()
			stack = stack[:len(stack)-1]
			last = &stack[len(stack)-1]
			last.parts = append(last.parts, p)
			atom = true
			i++
		default:
			p, n, e := slowAtom(s[i:])
			if e != api.OK {
				return api.Piece{}, i, e
			}
			last.parts = append(last.parts, p)
			atom = true
			i += n
		}
	}
	if len(stack) > 1 {
		return api.Piece{}, len(s), api.ErrForm
	}
	return stack[0].end(), 0, api.OK
}

// asSlow holds Parse of a pattern against the slow one, and against what follows of it.
func asSlow(t *testing.T, s string) {
	t.Helper()
	p, at, e := pattern.Parse(s)
	wantP, wantAt, wantE := slow(s)
	if at != wantAt || e != wantE || !same(p, wantP) {
		t.Fatalf("Parse(%.200q) = %.300s, %d, %v; want %.300s, %d, %v", s, brief(p), at, e, brief(wantP), wantAt, wantE)
	}
	if e == api.OK && pattern.Right(p) != (pattern.Size(p) <= api.MaxSteps) {
		t.Fatalf("Right(Parse(%.200q)) = %v", s, pattern.Right(p))
	}
}

// eachText calls a function with each text of at most n of some signs, each once.
func eachText(signs string, n int, do func(s string)) {
	do("")
	if n == 0 {
		return
	}
	for i := range len(signs) {
		eachText(signs, n-1, func(s string) {
			do(signs[i:i+1] + s)
		})
	}
}

// P14.1: examples of all kinds of pieces, with each field.
func TestParse(t *testing.T) {
	a, b, c, empty := char("a"), char("b"), char("c"), plain(api.PEmpty)
	for s, want := range map[string]api.Piece{
		"":             empty,
		"a":            a,
		"ab":           seq(a, b),
		"abc":          seq(a, b, c),
		"|":            alt(empty, empty),
		"||":           alt(empty, empty, empty),
		"a|":           alt(a, empty),
		"|a":           alt(empty, a),
		"a||b":         alt(a, empty, b),
		"a|b*":         alt(a, rep(b, 0, -1)),
		"ab|c":         alt(seq(a, b), c),
		"()":           empty,
		"(a)":          a,
		"((a))":        a,
		"(ab)":         seq(a, b),
		"(ab)c":        seq(seq(a, b), c),
		"a(bc)":        seq(a, seq(b, c)),
		"(a|b)|c":      alt(alt(a, b), c),
		"(a|b)c":       seq(alt(a, b), c),
		"()()":         seq(empty, empty),
		"()|a":         alt(empty, a),
		"(|)":          alt(empty, empty),
		"a*":           rep(a, 0, -1),
		"a+":           rep(a, 1, -1),
		"a?":           rep(a, 0, 1),
		"a{3}":         rep(a, 3, 3),
		"a{3,}":        rep(a, 3, -1),
		"a{3,5}":       rep(a, 3, 5),
		"a{0}":         rep(a, 0, 0),
		"a{0,}":        rep(a, 0, -1),
		"a{0,1}":       rep(a, 0, 1),
		"a{100}":       rep(a, 100, 100),
		"a{100,100}":   rep(a, 100, 100),
		"a{1}":         rep(a, 1, 1),
		"ab*":          seq(a, rep(b, 0, -1)),
		"(ab)*":        rep(seq(a, b), 0, -1),
		"(a*)*":        rep(rep(a, 0, -1), 0, -1),
		"(a*)?b":       seq(rep(rep(a, 0, -1), 0, 1), b),
		"()*":          rep(empty, 0, -1),
		"(|a)+":        rep(alt(empty, a), 1, -1),
		".":            plain(api.PAny),
		"^":            plain(api.PBegin),
		"$":            plain(api.PEnd),
		"^$":           seq(plain(api.PBegin), plain(api.PEnd)),
		"a^b$c":        seq(a, plain(api.PBegin), b, plain(api.PEnd), c),
		"^*":           rep(plain(api.PBegin), 0, -1),
		"${2}":         rep(plain(api.PEnd), 2, 2),
		".+":           rep(plain(api.PAny), 1, -1),
		"[a-c]":        set("[a-c]"),
		"[^a-c]":       set("[^a-c]"),
		"[]a]":         set("[]a]"),
		"[|)*]":        set("[|)*]"),
		"[()]a":        seq(set("[()]"), a),
		"[a]{2,}":      rep(set("[a]"), 2, -1),
		`\d`:           set("[0-9]"),
		`\S+a`:         seq(rep(set(`[^\s]`), 1, -1), a),
		`[\]]`:         set(`[\]]`),
		`\.git`:        seq(char("."), char("g"), char("i"), char("t")),
		`\*`:           char("*"),
		`\(a\)`:        seq(char("("), a, char(")")),
		`a\|b`:         seq(a, char("|"), b),
		`\\*`:          rep(char(`\`), 0, -1),
		`\a`:           a,
		`\n`:           char("n"),
		"]":            char("]"),
		"}":            char("}"),
		"a]}":          seq(a, char("]"), char("}")),
		"a,b":          seq(a, char(","), b),
		"a-b":          seq(a, char("-"), b),
		"a}*":          seq(a, rep(char("}"), 0, -1)),
		"a{1}}":        seq(rep(a, 1, 1), char("}")),
		"\u00e9":       seq(char("\xc3"), char("\xa9")),
		"\xff*":        rep(char("\xff"), 0, -1),
		"\x00":         char("\x00"),
		"\n":           char("\n"),
		"a b":          seq(a, char(" "), b),
		"(a|b){1,3}|c": alt(rep(alt(a, b), 1, 3), c),
	} {
		p, at, e := pattern.Parse(s)
		if at != 0 || e != api.OK || !same(p, want) {
			t.Errorf("Parse(%q) = %s, %d, %v; want %s", s, brief(p), at, e, brief(want))
		}
	}
}

// P14.1: each byte by itself and behind a backslash, alone, asked for, and in a row.
func TestAtoms(t *testing.T) {
	for c := range 256 {
		s := string([]byte{byte(c)})
		want := char(s)
		switch s {
		case ".":
			want = plain(api.PAny)
		case "^":
			want = plain(api.PBegin)
		case "$":
			want = plain(api.PEnd)
		}
		meant := char(s)
		if l, ok := class.Named(byte(c)); ok {
			meant = api.Piece{Kind: api.PSet, Text: l}
		}
		atoms := map[string]api.Piece{`\` + s: meant}
		if !strings.Contains(`|)*+?{([\`, s) {
			atoms[s] = want
		} else if _, _, e := pattern.Parse(s); e == api.OK && s != "|" {
			t.Errorf("Parse(%q) is a pattern", s)
		}
		for s, want := range atoms {
			for part, want := range map[string]api.Piece{s: want, "(" + s + ")": want, s + "*": rep(want, 0, -1), s + "+": rep(want, 1, -1), s + "?": rep(want, 0, 1), s + "{7}": rep(want, 7, 7), "a" + s: seq(char("a"), want), s + "|a": alt(want, char("a"))} {
				if p, at, e := pattern.Parse(part); at != 0 || e != api.OK || !same(p, want) {
					t.Errorf("Parse(%q) = %s, %d, %v; want %s", part, brief(p), at, e, brief(want))
				}
			}
		}
	}
}

// P14.1, P14.2: numbers in braces, with as many digits as there are.
func TestNumbers(t *testing.T) {
	for m := range 1100 {
		for _, n := range []int{-2, -1, 0, 1, 9, 10, 50, 99, 100, 101, 102, 110, 999, 1000, 1001, m - 1, m, m + 1} {
			s := "b{" + strconv.Itoa(m)
			most := m
			switch {
			case n == -2:
				n = m
			case n == -1:
				s += ","
			default:
				s += "," + strconv.Itoa(n)
				most = max(m, n)
			}
			want, at, e := rep(char("b"), m, n), 0, api.OK
			switch {
			case most > 999:
				want, at, e = api.Piece{}, 1, api.ErrForm
			case most > 100 || n >= 0 && m > n:
				want, at, e = api.Piece{}, 1, api.ErrRange
			}
			if p, gotAt, gotE := pattern.Parse(s + "}"); gotAt != at || gotE != e || !same(p, want) {
				t.Errorf("Parse(%q) = %s, %d, %v; want %s, %d, %v", s+"}", brief(p), gotAt, gotE, brief(want), at, e)
			}
		}
	}
	for s, want := range map[string][2]int{"a{00}": {0, 0}, "a{007}": {7, 7}, "a{01,}": {1, -1}, "a{010,020}": {10, 20}, "a{000,100}": {0, 100}} {
		if p, _, e := pattern.Parse(s); e != api.OK || !same(p, rep(char("a"), want[0], want[1])) {
			t.Errorf("Parse(%q) = %s, %v", s, brief(p), e)
		}
	}
}

// P14.2: errors, each with its place.
func TestErrors(t *testing.T) {
	for s, want := range map[string]struct {
		at int
		e  api.Errno
	}{
		"*":           {0, api.ErrForm},
		"+a":          {0, api.ErrForm},
		"?":           {0, api.ErrForm},
		"{":           {0, api.ErrForm},
		"{1}":         {0, api.ErrForm},
		"{101}":       {0, api.ErrForm},
		"a**":         {2, api.ErrForm},
		"a*+":         {2, api.ErrForm},
		"a*?":         {2, api.ErrForm},
		"a+{2}":       {2, api.ErrForm},
		"a{2}{3}":     {4, api.ErrForm},
		"a{2}*":       {4, api.ErrForm},
		"a|*":         {2, api.ErrForm},
		"|?":          {1, api.ErrForm},
		"(*)":         {1, api.ErrForm},
		"(a|+)":       {3, api.ErrForm},
		"a({1})":      {2, api.ErrForm},
		")":           {0, api.ErrForm},
		"a)":          {1, api.ErrForm},
		"a|)":         {2, api.ErrForm},
		"(a))":        {3, api.ErrForm},
		"())a":        {2, api.ErrForm},
		"(":           {1, api.ErrForm},
		"(a":          {2, api.ErrForm},
		"(a|":         {3, api.ErrForm},
		"((a)":        {4, api.ErrForm},
		"a(b(c)d":     {7, api.ErrForm},
		"(a*":         {3, api.ErrForm},
		`(a\)`:        {4, api.ErrForm},
		"(a[)]":       {5, api.ErrForm},
		"[":           {0, api.ErrForm},
		"a[b":         {1, api.ErrForm},
		"[]":          {0, api.ErrForm},
		"a[^]b":       {1, api.ErrForm},
		`ab[\]`:       {2, api.ErrForm},
		`[a\d-z]`:     {0, api.ErrForm},
		"([a)":        {1, api.ErrForm},
		"ab[c-b]":     {2, api.ErrRange},
		"a*[z-a]*":    {2, api.ErrRange},
		"[c-b":        {0, api.ErrRange},
		"([c-b":       {1, api.ErrRange},
		`\`:           {0, api.ErrForm},
		`a\`:          {1, api.ErrForm},
		`a*\`:         {2, api.ErrForm},
		`a\\\`:        {3, api.ErrForm},
		`(\`:          {1, api.ErrForm},
		"a{":          {1, api.ErrForm},
		"a{}":         {1, api.ErrForm},
		"a{1":         {1, api.ErrForm},
		"a{1,":        {1, api.ErrForm},
		"a{1,2":       {1, api.ErrForm},
		"a{,}":        {1, api.ErrForm},
		"a{,2}":       {1, api.ErrForm},
		"a{1,2,}":     {1, api.ErrForm},
		"a{1,,2}":     {1, api.ErrForm},
		"a{1;2}":      {1, api.ErrForm},
		"a{x}":        {1, api.ErrForm},
		"a{1x}":       {1, api.ErrForm},
		"a{1,x}":      {1, api.ErrForm},
		"a{ 1}":       {1, api.ErrForm},
		"a{1 }":       {1, api.ErrForm},
		"a{1, 2}":     {1, api.ErrForm},
		"a{-1}":       {1, api.ErrForm},
		"a{+1}":       {1, api.ErrForm},
		"a{1_0}":      {1, api.ErrForm},
		"a{0x1}":      {1, api.ErrForm},
		"a{\u0661}":   {1, api.ErrForm},
		"a{:}":        {1, api.ErrForm},
		"a{/}":        {1, api.ErrForm},
		"a{1000}":     {1, api.ErrForm},
		"a{0001}":     {1, api.ErrForm},
		"a{1,1000}":   {1, api.ErrForm},
		"a{101,x}":    {1, api.ErrForm},
		"a{3,2":       {1, api.ErrForm},
		"a{101":       {1, api.ErrForm},
		"ab{101}":     {2, api.ErrRange},
		"a{999}":      {1, api.ErrRange},
		"a{101,}":     {1, api.ErrRange},
		"a{1,101}":    {1, api.ErrRange},
		"a{101,102}":  {1, api.ErrRange},
		"a{3,2}":      {1, api.ErrRange},
		"a{1,0}":      {1, api.ErrRange},
		"a{100,99}*":  {1, api.ErrRange},
		"(a|b{9,8})*": {4, api.ErrRange},
		"a{2,1}[":     {1, api.ErrRange},
		"a[a{2,1}":    {1, api.ErrForm},
		"a*|b)(":      {4, api.ErrForm},
	} {
		p, at, e := pattern.Parse(s)
		if at != want.at || e != want.e || !isZero(p) {
			t.Errorf("Parse(%q) = %s, %d, %v; want %d, %v", s, brief(p), at, e, want.at, want.e)
		}
	}
}

// P14.2: brackets may be MaxDeep deep, however many there are beside one another.
func TestDeepBrackets(t *testing.T) {
	for n := range api.MaxDeep + 1 {
		s := strings.Repeat("(", n) + "a" + strings.Repeat(")", n)
		if p, at, e := pattern.Parse(s); at != 0 || e != api.OK || !same(p, char("a")) {
			t.Errorf("%d deep: %s, %d, %v", n, brief(p), at, e)
		}
		if p, at, e := pattern.Parse(s + s + "*"); at != 0 || e != api.OK || n > 0 && !same(p, seq(char("a"), rep(char("a"), 0, -1))) {
			t.Errorf("twice %d deep: %s, %d, %v", n, brief(p), at, e)
		}
	}
	full := strings.Repeat("(", api.MaxDeep)
	for s, want := range map[string]int{full + "(": 64, full + "(a": 64, full + "(" + full: 64, full + "a|b*(": 68, "ab" + full + "(": 66, "(a)" + full + "()": 67} {
		if p, at, e := pattern.Parse(s); at != want || e != api.ErrMany || !isZero(p) {
			t.Errorf("Parse(%q) = %s, %d, %v; want %d", s, brief(p), at, e, want)
		}
	}
	for s, want := range map[string]int{full: 64, full + "*": 64, full + ")(": 66, full + "a": 65, "*" + full + "(": 0} {
		if p, at, e := pattern.Parse(s); at != want || e != api.ErrForm || !isZero(p) {
			t.Errorf("Parse(%q) = %s, %d, %v; want %d", s, brief(p), at, e, want)
		}
	}
	many := strings.Repeat("(a)", 1000)
	if p, at, e := pattern.Parse(many); at != 0 || e != api.OK || len(p.Kids) != 1000 {
		t.Errorf("many brackets: %d, %v", at, e)
	}
}

// P14.1, P14.2, P14.4: all short patterns, as a parser tells them that doesn't call itself.
func TestShort(t *testing.T) {
	eachText(`a1,|()*+?{}[]^$.\-d`, 4, func(s string) { asSlow(t, s) })
	eachText("a(|)*", 7, func(s string) { asSlow(t, s) })
	eachText(`a[]^\-d`, 5, func(s string) { asSlow(t, s) })
	eachText("015,}a", 5, func(s string) { asSlow(t, "a{"+s) })
	eachText("09,}", 7, func(s string) { asSlow(t, ".{"+s) })
}

// chanceText answers a text of some signs.
func chanceText(chance *rand.Rand, signs string, n int) string {
	var b strings.Builder
	for range chance.Intn(n + 1) {
		b.WriteByte(signs[chance.Intn(len(signs))])
	}
	return b.String()
}

// chanceTimes answers how often at most, and at least, a part may be asked for.
func chanceTimes(chance *rand.Rand, most int) (int, int) {
	least := chance.Intn(most + 1)
	if chance.Intn(3) == 0 {
		return least, -1
	}
	return least, least + chance.Intn(most-least+1)
}

// chancePiece answers a piece that a pattern may be, of at most so many pieces in one another.
func chancePiece(chance *rand.Rand, deep int) api.Piece {
	kind := 1 + chance.Intn(9)
	if deep <= 1 {
		kind = 1 + chance.Intn(6)
	}
	p := plain(kind)
	switch kind {
	case api.PChar:
		p.Text = string([]byte{byte(chance.Intn(256))})
		if chance.Intn(2) == 0 {
			p.Text = chanceSign(chance, `abdwsDWS|()*+?{}[]^$.\-,1`)
		}
	case api.PSet:
		var b strings.Builder
		few := 1 + chance.Intn(6)
		for range 256 {
			b.WriteString(strconv.Itoa(min(1, chance.Intn(few))))
		}
		p.Text = b.String()
	case api.PSeq, api.PAlt:
		for range 2 + chance.Intn(3) {
			p.Kids = append(p.Kids, chancePiece(chance, deep-1))
		}
	case api.PRepeat:
		p.Kids = []api.Piece{chancePiece(chance, deep-1)}
		p.Least, p.Top = chanceTimes(chance, []int{1, 3, 100}[chance.Intn(3)])
	}
	return p
}

// chanceSign answers one of some signs.
func chanceSign(chance *rand.Rand, signs string) string {
	i := chance.Intn(len(signs))
	return signs[i : i+1]
}

// told answers a pattern that is that piece, and true, if there is one; its atoms stand in brackets.
func told(p api.Piece) (string, bool) {
	if p.Kind != api.PRepeat && (p.Least != 0 || p.Top != 0) {
		return "", false
	}
	if p.Kind != api.PSet && p.Kind != api.PChar && p.Text != "" {
		return "", false
	}
	if p.Kind < api.PSeq && len(p.Kids) > 0 {
		return "", false
	}
	switch p.Kind {
	case api.PEmpty:
		return "", true
	case api.PChar:
		return toldChar(p.Text)
	case api.PAny:
		return ".", true
	case api.PSet:
		return toldSet(p.Text)
	case api.PBegin:
		return "^", true
	case api.PEnd:
		return "$", true
	case api.PSeq:
		return toldKids(p.Kids, "")
	case api.PAlt:
		return toldKids(p.Kids, "|")
	case api.PRepeat:
		return toldRepeat(p)
	}
	return "", false
}

func toldChar(s string) (string, bool) {
	if len(s) != 1 {
		return "", false
	}
	if strings.Contains("dwsDWS", s) {
		return s, true
	}
	return `\` + s, true
}

func toldSet(s string) (string, bool) {
	var in, out strings.Builder
	for c := range len(s) {
		b := string([]byte{byte(c)})
		if !strings.Contains("dwsDWS", b) {
			b = `\` + b
		}
		switch s[c] {
		case '0':
			out.WriteString(b)
		case '1':
			in.WriteString(b)
		default:
			return "", false
		}
	}
	if in.Len() > 0 {
		return "[" + in.String() + "]", len(s) == 256
	}
	return "[^" + out.String() + "]", len(s) == 256
}

func toldKids(l []api.Piece, between string) (string, bool) {
	var texts []string
	for _, p := range l {
		s, ok := told(p)
		if !ok {
			return "", false
		}
		texts = append(texts, "("+s+")")
	}
	return strings.Join(texts, between), len(l) > 1
}

func toldRepeat(p api.Piece) (string, bool) {
	if p.Text != "" || len(p.Kids) != 1 {
		return "", false
	}
	s, ok := told(p.Kids[0])
	s = "(" + s + "){" + strconv.Itoa(p.Least)
	switch {
	case p.Least < 0 || p.Least > 100 || p.Top < -1 || p.Top > 100 || p.Top >= 0 && p.Top < p.Least:
		return "", false
	case p.Top == -1:
		return s + ",}", ok
	case p.Top == p.Least:
		return s + "}", ok
	}
	return s + "," + strconv.Itoa(p.Top) + "}", ok
}

// P14.1, P14.2, P14.4: longer patterns by chance, among them right ones with one sign changed.
func TestChance(t *testing.T) {
	chance := rand.New(rand.NewSource(14))
	for range 40000 {
		asSlow(t, chanceText(chance, `aab1|()()**+?{}[]^$.\-d`, 30))
		asSlow(t, chanceText(chance, "a()|*", 60))
		asSlow(t, chanceText(chance, `a\d(|`, 12)+chanceText(chance, `\a)]*`, 12))
	}
	for range 4000 {
		p := chancePiece(chance, 1+chance.Intn(4))
		s, ok := told(p)
		if !ok || len(s) > 20000 {
			continue
		}
		asSlow(t, s)
		q, at, e := pattern.Parse(s)
		if at != 0 || e != api.OK || !same(p, q) {
			t.Fatalf("Parse(%.200q) = %.300s, %d, %v; want %.300s", s, brief(q), at, e, brief(p))
		}
		i := chance.Intn(len(s) + 1)
		asSlow(t, s[:i]+chanceSign(chance, `a1,|()*+?{}[]\`)+s[i:])
		asSlow(t, s[:i])
		asSlow(t, s[i:])
	}
}

// steps answers how many steps a piece has, each of them counted by itself as it is laid, as far as they aren't more than are asked for.
func steps(p api.Piece) int {
	n := 0
	lay(p, &n)
	return min(n, api.MaxSteps+1)
}

// lay counts the steps of a piece, and ends when they are too many.
func lay(p api.Piece, n *int) {
	if *n > api.MaxSteps {
		return
	}
	switch p.Kind {
	case api.PEmpty:
	case api.PChar, api.PAny, api.PSet, api.PBegin, api.PEnd:
		*n++
	case api.PSeq, api.PAlt:
		for i, k := range p.Kids {
			lay(k, n)
			if p.Kind == api.PAlt && i > 0 {
				*n += 2
			}
		}
	case api.PRepeat:
		layRepeat(p, n)
	default:
		*n = api.MaxSteps + 1
	}
}

func layRepeat(p api.Piece, n *int) {
	if len(p.Kids) != 1 || p.Text != "" || p.Least < 0 || p.Least > 100 || p.Top > 100 || p.Top != -1 && p.Top < p.Least {
		*n = api.MaxSteps + 1
		return
	}
	for range p.Least {
		lay(p.Kids[0], n)
	}
	if p.Top == -1 {
		*n += 2
		lay(p.Kids[0], n)
	}
	for range p.Top - p.Least {
		*n++
		lay(p.Kids[0], n)
	}
}

// P14.3: Size of each kind.
func TestSize(t *testing.T) {
	a, empty := char("a"), plain(api.PEmpty)
	for i, c := range []struct {
		p    api.Piece
		want int
	}{
		{empty, 0},
		{a, 1},
		{plain(api.PAny), 1},
		{set("[ab]"), 1},
		{plain(api.PBegin), 1},
		{plain(api.PEnd), 1},
		{seq(a, a), 2},
		{seq(a, empty, a), 2},
		{seq(a), 1},
		{seq(), 0},
		{seq(seq(a, a), a), 3},
		{alt(a, a), 4},
		{alt(a, a, a), 7},
		{alt(empty, empty), 2},
		{alt(a), 1},
		{alt(), 0},
		{alt(seq(a, a), alt(a, a)), 8},
		{rep(a, 0, -1), 3},
		{rep(a, 1, -1), 4},
		{rep(a, 7, -1), 10},
		{rep(a, 100, -1), 103},
		{rep(a, 0, 0), 0},
		{rep(a, 0, 1), 2},
		{rep(a, 1, 1), 1},
		{rep(a, 3, 5), 7},
		{rep(a, 0, 100), 200},
		{rep(a, 100, 100), 100},
		{rep(empty, 0, -1), 2},
		{rep(empty, 100, 100), 0},
		{rep(empty, 0, 100), 100},
		{rep(seq(a, a, a), 2, 4), 14},
		{rep(seq(a, a, a), 2, -1), 11},
		{rep(rep(a, 100, 100), 40, 40), 4000},
		{rep(rep(a, 100, 100), 41, 41), 4001},
		{rep(rep(a, 100, 100), 100, 100), 4001},
		{seq(rep(rep(a, 100, 100), 39, 39), rep(a, 99, 99), a), 4000},
		{seq(rep(rep(a, 100, 100), 39, 39), rep(a, 100, 100), a), 4001},
		{rep(rep(rep(a, 100, 100), 100, 100), 0, 0), 0},
		{rep(rep(rep(a, 100, 100), 100, 100), 0, 1), 4001},
		{rep(rep(rep(a, 100, 100), 100, 100), 0, -1), 4001},
		{seq(rep(rep(rep(a, 100, 100), 100, 100), 0, 0), a), 1},
		{rep(rep(rep(rep(rep(rep(a, 100, 100), 100, 100), 100, 100), 100, 100), 100, 100), 100, 100), 4001},
		{rep(rep(a, 37, 37), 100, -1), 37*101 + 2},
		{rep(rep(rep(a, 3, 3), 13, 13), 0, 100), 4000},
		{rep(seq(rep(rep(a, 3, 3), 13, 13), a), 0, 100), 4001},
	} {
		if n := pattern.Size(c.p); n != c.want || n != steps(c.p) {
			t.Errorf("%d: Size(%.200s) = %d, want %d, %d", i, brief(c.p), n, c.want, steps(c.p))
		}
	}
}

// P14.3: Size at the edge of MaxSteps, of many Kids.
func TestSizeOfMany(t *testing.T) {
	for _, n := range []int{0, 1, 1333, 1334, 1335, 2000, 2001, 3999, 4000, 4001, 4002, 100000, 1 << 18} {
		l := slices.Repeat([]api.Piece{char("a")}, n)
		if got := pattern.Size(seq(l...)); got != min(n, 4001) {
			t.Errorf("Size of %d in a row = %d", n, got)
		}
		if got := pattern.Size(alt(l...)); got != min(max(0, 3*n-2), 4001) {
			t.Errorf("Size of %d rows = %d", n, got)
		}
		l = make([]api.Piece, n)
		for i := range l {
			l[i] = plain(api.PEmpty)
		}
		if got := pattern.Size(seq(l...)); got != 0 {
			t.Errorf("Size of %d empty ones in a row = %d", n, got)
		}
		if got := pattern.Size(alt(l...)); got != min(max(0, 2*n-2), 4001) {
			t.Errorf("Size of %d empty rows = %d", n, got)
		}
		if got, want := pattern.Right(seq(l...)), n > 1; got != want {
			t.Errorf("Right of %d empty ones in a row = %v", n, got)
		}
		if got, want := pattern.Right(alt(l...)), n > 1 && n <= 2001; got != want {
			t.Errorf("Right of %d empty rows = %v", n, got)
		}
	}
}

// odd answers pieces of kinds that there aren't, and PRepeats such as no part can have.
func odd() []api.Piece {
	a := char("a")
	l := []api.Piece{{}, plain(10), plain(-1), plain(1 << 40), plain(-1 << 62), {Kind: 10, Kids: []api.Piece{a, a}}, plain(api.PRepeat)}
	for _, times := range [][2]int{{-1, -1}, {-1, 0}, {-1, 1}, {-100, 100}, {0, -2}, {0, -100}, {1, 0}, {2, 1}, {100, 99}, {0, 101}, {100, 101}, {101, 101}, {101, -1}, {101, 100}, {1 << 62, -1}, {0, 1 << 62}, {-1 << 63, -1}, {0, -1 << 63}, {1 << 62, 1 << 62}} {
		l = append(l, rep(a, times[0], times[1]))
	}
	for _, p := range []api.Piece{rep(a, 1, 2), rep(a, 0, -1), rep(a, 0, 0), rep(plain(api.PEmpty), 1, 1)} {
		with := p
		with.Text = "a"
		none := p
		none.Kids = nil
		two := p
		two.Kids = []api.Piece{a, a}
		l = append(l, with, none, two)
	}
	return l
}

// P14.3: MaxSteps and 1 of what is no piece, by itself and within others.
func TestOddSize(t *testing.T) {
	a := char("a")
	for i, p := range odd() {
		for j, p := range []api.Piece{p, seq(p), seq(a, p), seq(p, a), alt(p), alt(a, p), rep(p, 1, 1), rep(p, 0, 1), rep(p, 0, -1), rep(p, 100, 100), seq(a, alt(a, rep(p, 3, -1)))} {
			if n := pattern.Size(p); n != api.MaxSteps+1 || n != steps(p) {
				t.Errorf("%d %d: Size(%s) = %d", i, j, brief(p), n)
			}
			if pattern.Right(p) {
				t.Errorf("%d %d: Right(%s)", i, j, brief(p))
			}
		}
		for j, p := range []api.Piece{rep(p, 0, 0), seq(a, rep(p, 0, 0)), rep(rep(p, 0, 0), 2, -1)} {
			if n := pattern.Size(p); n > 3 || n != steps(p) {
				t.Errorf("%d %d: Size(%s) = %d", i, j, brief(p), n)
			}
			if pattern.Right(p) {
				t.Errorf("%d %d: Right(%s)", i, j, brief(p))
			}
		}
	}
}

// P14.3: Size doesn't hang on fields that it doesn't name, but such a piece isn't right.
func TestSizeOfFields(t *testing.T) {
	a := char("a")
	for i, c := range []struct {
		p    api.Piece
		want int
	}{
		{api.Piece{Kind: api.PEmpty, Text: "a", Kids: []api.Piece{a}, Least: 5, Top: 3}, 0},
		{api.Piece{Kind: api.PChar, Text: "ab", Kids: []api.Piece{a}, Least: 5}, 1},
		{api.Piece{Kind: api.PChar}, 1},
		{api.Piece{Kind: api.PSet, Text: "a", Top: 3}, 1},
		{api.Piece{Kind: api.PAny, Kids: []api.Piece{{}}}, 1},
		{api.Piece{Kind: api.PBegin, Text: "a"}, 1},
		{api.Piece{Kind: api.PEnd, Top: -1}, 1},
		{api.Piece{Kind: api.PSeq, Text: "a", Kids: []api.Piece{a, a}}, 2},
		{api.Piece{Kind: api.PAlt, Text: "a", Least: 1, Kids: []api.Piece{a, a}}, 4},
	} {
		if n := pattern.Size(c.p); n != c.want {
			t.Errorf("%d: Size(%s) = %d, want %d", i, brief(c.p), n, c.want)
		}
		if pattern.Right(c.p) {
			t.Errorf("%d: Right(%s)", i, brief(c.p))
		}
	}
}

// spoilt answers a piece's likes with one field changed, of the piece or of one within.
func spoilt(p api.Piece) []api.Piece {
	var l []api.Piece
	add := func(change func(q *api.Piece)) {
		q := p
		q.Kids = slices.Clone(p.Kids)
		change(&q)
		l = append(l, q)
	}
	for kind := range 12 {
		add(func(q *api.Piece) { q.Kind = kind - 1 })
	}
	for _, s := range []string{"", "a", "ab", strings.Repeat("0", 255), strings.Repeat("0", 257), strings.Repeat("0", 255) + "2", "2" + strings.Repeat("1", 255), strings.Repeat("0", 100) + " " + strings.Repeat("1", 155), strings.Repeat("01", 128), p.Text + "1"} {
		add(func(q *api.Piece) { q.Text = s })
	}
	for _, n := range []int{-2, -1, 0, 1, 2, 99, 100, 101, p.Least - 1, p.Top + 1} {
		add(func(q *api.Piece) { q.Least = n })
		add(func(q *api.Piece) { q.Top = n })
	}
	add(func(q *api.Piece) { q.Kids = nil })
	add(func(q *api.Piece) { q.Kids = q.Kids[:min(1, len(q.Kids))] })
	add(func(q *api.Piece) { q.Kids = q.Kids[:min(2, len(q.Kids))] })
	add(func(q *api.Piece) { q.Kids = append(q.Kids, char("b")) })
	for i, k := range p.Kids {
		for _, k := range spoilt(k) {
			add(func(q *api.Piece) { q.Kids[i] = k })
		}
	}
	return l
}

// asTold holds Size and Right of a piece against its steps, counted one by one, and its pattern.
func asTold(t *testing.T, p api.Piece) {
	t.Helper()
	n := steps(p)
	if got := pattern.Size(p); got != n {
		t.Fatalf("Size(%.300s) = %d, want %d", brief(p), got, n)
	}
	s, ok := told(p)
	if ok {
		q, _, e := pattern.Parse(s)
		ok = e == api.OK && same(p, q)
	}
	if got, want := pattern.Right(p), ok && n <= api.MaxSteps; got != want {
		t.Fatalf("Right(%.300s) = %v, want %v", brief(p), got, want)
	}
}

// P14.3: pieces by chance, and what becomes of them with one field changed: those are right that a pattern is.
func TestRight(t *testing.T) {
	for _, s := range []string{"", "a", ".", "[a]", "^", "$", "ab", "a|b", "a*", "a{0}", "a{1,100}", "(a|b*)+c"} {
		p, _, _ := pattern.Parse(s)
		if !pattern.Right(p) {
			t.Errorf("Right(Parse(%q)) = false", s)
		}
		for _, q := range spoilt(p) {
			asTold(t, q)
		}
	}
	chance := rand.New(rand.NewSource(141))
	right := 0
	for range 1500 {
		p := chancePiece(chance, 1+chance.Intn(4))
		asTold(t, p)
		if pattern.Right(p) {
			right++
		}
		l := spoilt(p)
		for range 20 {
			asTold(t, l[chance.Intn(len(l))])
		}
	}
	if right < 500 {
		t.Errorf("only %d pieces by chance were right", right)
	}
}

// P14.3: each text of 256 bytes 0 and 1 is a set, every other text isn't one.
func TestRightSets(t *testing.T) {
	zeros := strings.Repeat("0", 256)
	for _, s := range []string{zeros, strings.Repeat("1", 256), zeros[1:] + "1", "1" + zeros[1:], strings.Repeat("0110", 64)} {
		if !pattern.Right(api.Piece{Kind: api.PSet, Text: s}) {
			t.Errorf("%q is a set", s)
		}
	}
	for _, s := range []string{"", "0", "a", zeros[1:], zeros + "0", zeros + zeros, strings.Repeat("a", 256), strings.Repeat("1", 1<<20)} {
		if pattern.Right(api.Piece{Kind: api.PSet, Text: s}) {
			t.Errorf("%.300q is no set", s)
		}
	}
	for c := range 256 {
		for i := range 256 {
			s := zeros[:i] + string([]byte{byte(c)}) + zeros[i+1:]
			if got, want := pattern.Right(api.Piece{Kind: api.PSet, Text: s}), c == '0' || c == '1'; got != want {
				t.Fatalf("Right of a set with byte %d at %d = %v", c, i, got)
			}
		}
	}
}

// P14.3, R1: pieces of any depth are right, however deep a pattern may be.
func TestDeepPieces(t *testing.T) {
	a := char("a")
	for _, deep := range []int{65, 1000, 3999, 1 << 16} {
		row, rows, times, none, empty := seq(a, a), alt(a, a), rep(a, 1, 1), rep(a, 0, 0), seq(a, plain(api.PEmpty))
		bad := api.Piece{}
		for range deep - 1 {
			row, rows = seq(row, a), alt(a, rows)
			times, none, empty, bad = rep(times, 1, 1), rep(none, 0, 0), seq(plain(api.PEmpty), empty), rep(bad, 0, 0)
		}
		if n := pattern.Size(row); n != min(deep+1, 4001) || pattern.Right(row) != (n < 4001) {
			t.Errorf("%d deep: rows of %d steps", deep, n)
		}
		if n := pattern.Size(rows); n != min(3*deep+1, 4001) || pattern.Right(rows) != (n < 4001) {
			t.Errorf("%d deep: bars of %d steps", deep, n)
		}
		if n := pattern.Size(times); n != 1 || !pattern.Right(times) {
			t.Errorf("%d deep: once: %d steps", deep, n)
		}
		if n := pattern.Size(none); n != 0 || !pattern.Right(none) {
			t.Errorf("%d deep: never: %d steps", deep, n)
		}
		if n := pattern.Size(empty); n != 1 || !pattern.Right(empty) {
			t.Errorf("%d deep: empty: %d steps", deep, n)
		}
		if n := pattern.Size(bad); n != 0 || pattern.Right(bad) {
			t.Errorf("%d deep: no piece: %d steps", deep, n)
		}
	}
}

// P14.4: what is parsed is right up to MaxSteps, and not beyond.
func TestTooLong(t *testing.T) {
	for s, want := range map[string]bool{
		strings.Repeat("a", 4000):        true,
		strings.Repeat("a", 4001):        false,
		strings.Repeat("|", 2000):        true,
		strings.Repeat("|", 2001):        false,
		"(a{100}){40}":                   true,
		"(a{100}){40}b":                  false,
		"(a{100}){40}()":                 true,
		"(a{100}){40}b{0}":               true,
		"(((a{100}){100}){100}){0}":      true,
		"(((a{100}){100}){100}){0,1}":    false,
		strings.Repeat("a*", 1333) + "b": true,
		strings.Repeat("a*", 1334):       false,
	} {
		p, at, e := pattern.Parse(s)
		if at != 0 || e != api.OK || pattern.Right(p) != want {
			t.Errorf("Right(Parse(%.20q)) = %v, %d, %v", s, !want, at, e)
		}
	}
}

// R1: long patterns end soon.
func TestLong(t *testing.T) {
	const n = 1 << 18
	for _, c := range []struct {
		s    string
		kind int
		kids int
	}{
		{strings.Repeat("a", n), api.PSeq, n},
		{strings.Repeat("a*", n/2), api.PSeq, n / 2},
		{strings.Repeat("|", n), api.PAlt, n + 1},
		{strings.Repeat("()", n/2), api.PSeq, n / 2},
		{strings.Repeat("(a|b)", n/8), api.PSeq, n / 8},
		{strings.Repeat(`\|`, n/2), api.PSeq, n / 2},
		{strings.Repeat("a{1,2}", n/8), api.PSeq, n / 8},
		{strings.Repeat("[a]", n/32), api.PSeq, n / 32},
		{strings.Repeat(`\w`, n/32), api.PSeq, n / 32},
		{"[" + strings.Repeat("a", n) + "]", api.PSet, 0},
	} {
		p, at, e := pattern.Parse(c.s)
		if at != 0 || e != api.OK || p.Kind != c.kind || len(p.Kids) != c.kids {
			t.Errorf("Parse(%.20q..): %d of %d, %d, %v", c.s, p.Kind, len(p.Kids), at, e)
		}
		if pattern.Right(p) != (pattern.Size(p) <= api.MaxSteps) {
			t.Errorf("Right(Parse(%.20q..)) = %v", c.s, pattern.Right(p))
		}
	}
	as := strings.Repeat("a", n)
	for s, want := range map[string]int{"(" + as: n + 1, as + ")": n, as + "[" + as: n, as + "{" + as: n, as + "**": n + 1, "a{" + strings.Repeat("1", n) + "}": 1, strings.Repeat("(", n) + as: 64, "a{1," + strings.Repeat("0", n) + "}": 1} {
		if p, at, e := pattern.Parse(s); at != want || e == api.OK || !isZero(p) {
			t.Errorf("Parse(%.20q..) = %d, %v; want %d", s, at, e, want)
		}
	}
}

// change changes all that a piece shares.
func change(p api.Piece) {
	for i := range p.Kids {
		change(p.Kids[i])
		p.Kids[i] = api.Piece{Kind: 77}
	}
}

// clone answers a piece that shares nothing with another one.
func clone(p api.Piece) api.Piece {
	p.Kids = slices.Clone(p.Kids)
	for i, k := range p.Kids {
		p.Kids[i] = clone(k)
	}
	return p
}

// R3, R4: what is told hangs on the pattern alone, and shares nothing; what is asked for isn't changed.
func TestNothingShared(t *testing.T) {
	for _, s := range []string{"a", "ab|c*", "((a|b){2,3}c|)+[x-z]", `\d\w(a*)*`} {
		p, _, _ := pattern.Parse(s)
		want := clone(p)
		for i, k := range p.Kids {
			was := clone(p)
			_ = append(k.Kids, char("z"))
			change(k)
			for j := range p.Kids {
				if j != i && !same(p.Kids[j], was.Kids[j]) {
					t.Errorf("%q: Kids %d and %d share memory", s, i, j)
				}
			}
		}
		change(p)
		if q, _, _ := pattern.Parse(s); !same(q, want) {
			t.Errorf("Parse(%q) again = %s, want %s", s, brief(q), brief(want))
		}
	}
	chance := rand.New(rand.NewSource(142))
	for range 200 {
		p := chancePiece(chance, 4)
		was := clone(p)
		pattern.Size(p)
		pattern.Right(p)
		if !same(p, was) {
			t.Fatalf("%s was changed", brief(was))
		}
	}
}
