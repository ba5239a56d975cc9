package prog_test

import (
	"math"
	"math/rand"
	"regexp"
	"slices"
	"strconv"
	"strings"
	"testing"

	"linhay/api"
	"linhay/class"
	"linhay/pattern"
	"linhay/prog"
)

// zeros is the set without bytes.
var zeros = strings.Repeat("0", 256)

// plain answers a piece with nothing but a kind; char, seq, alt and rep those of a byte, and of pieces.
func plain(kind int) api.Piece     { return api.Piece{Kind: kind} }
func char(s string) api.Piece      { return api.Piece{Kind: api.PChar, Text: s} }
func seq(l ...api.Piece) api.Piece { return api.Piece{Kind: api.PSeq, Kids: l} }
func alt(l ...api.Piece) api.Piece { return api.Piece{Kind: api.PAlt, Kids: l} }
func rep(p api.Piece, least, top int) api.Piece {
	return api.Piece{Kind: api.PRepeat, Kids: []api.Piece{p}, Least: least, Top: top}
}

// told answers a program as a text: each step with its X, and its Y where it isn't 0.
func told(l []api.Inst) string {
	var texts []string
	for _, x := range l {
		s := strconv.Itoa(x.Kind)
		if x.Kind > 0 && x.Kind <= api.IJump {
			s = [...]string{"", "char", "any", "set", "begin", "end", "split", "match", "jump"}[x.Kind]
		}
		switch {
		case len(x.Text) == 256:
			s += " " + strconv.Itoa(class.Count(x.Text)) + "bytes"
		case x.Text != "":
			s += " " + strconv.Quote(x.Text)
		}
		if x.X != 0 || x.Kind != api.IMatch {
			s += " " + strconv.Itoa(x.X)
		}
		if x.Y != 0 {
			s += " " + strconv.Itoa(x.Y)
		}
		texts = append(texts, s)
	}
	return strings.Join(texts, ", ")
}

// slow answers the steps of a piece from a place on, as the chapter tells them: where they end is asked of pattern's Size, and each Kid is told anew.
func slow(p api.Piece, from int) []api.Inst {
	var l []api.Inst
	here := func() int { return from + len(l) }
	end := from + pattern.Size(p)
	one := func(kind int) []api.Inst { return []api.Inst{{Kind: kind, Text: p.Text, X: from + 1}} }
	switch p.Kind {
	case api.PChar:
		return one(api.IChar)
	case api.PAny:
		return one(api.IAny)
	case api.PSet:
		return one(api.ISet)
	case api.PBegin:
		return one(api.IBegin)
	case api.PEnd:
		return one(api.IEnd)
	case api.PSeq:
		for _, k := range p.Kids {
			l = append(l, slow(k, here())...)
		}
	case api.PAlt:
		for i, k := range p.Kids {
			if i == len(p.Kids)-1 {
				return append(l, slow(k, here())...)
			}
			l = append(l, api.Inst{Kind: api.ISplit, X: here() + 1, Y: here() + pattern.Size(k) + 2})
			l = append(l, slow(k, here())...)
			l = append(l, api.Inst{Kind: api.IJump, X: end})
		}
	case api.PRepeat:
		for range p.Least {
			l = append(l, slow(p.Kids[0], here())...)
		}
		split, more := here(), p.Top-p.Least
		if p.Top == -1 {
			more = 1
		}
		for range more {
			l = append(l, api.Inst{Kind: api.ISplit, X: here() + 1, Y: end})
			l = append(l, slow(p.Kids[0], here())...)
		}
		if p.Top == -1 {
			l = append(l, api.Inst{Kind: api.IJump, X: split})
		}
	}
	return l
}

// kinds answers what each kind of steps has: how long its text is, and whether its X and its Y are places, else 0.
func kinds() map[int]struct {
	text int
	x, y bool
} {
	return map[int]struct {
		text int
		x, y bool
	}{
		api.IChar:  {1, true, false},
		api.IAny:   {0, true, false},
		api.ISet:   {256, true, false},
		api.IBegin: {0, true, false},
		api.IEnd:   {0, true, false},
		api.ISplit: {0, true, true},
		api.IMatch: {0, false, false},
		api.IJump:  {0, true, false},
	}
}

// slowRight tells whether a program may be, by a table of what each kind has.
func slowRight(l []api.Inst) bool {
	table := kinds()
	mayBe := func(at int, isPlace bool) bool {
		if !isPlace {
			return at == 0
		}
		for i := range l {
			if i == at {
				return true
			}
		}
		return false
	}
	for _, x := range l {
		has, ok := table[x.Kind]
		if !ok || len(x.Text) != has.text || !mayBe(x.X, has.x) || !mayBe(x.Y, has.y) {
			return false
		}
		for i := range x.Text {
			if x.Kind == api.ISet && x.Text[i] != '0' && x.Text[i] != '1' {
				return false
			}
		}
	}
	return len(l) != 0
}

// isCompiled holds a piece's program against the slow one, and against what follows of it.
func isCompiled(t *testing.T, p api.Piece) {
	t.Helper()
	l, e := prog.Compile(p)
	if !pattern.Right(p) {
		if len(l) != 0 || e != api.ErrArg {
			t.Fatalf("Compile of no piece = %.300s, %v", told(l), e)
		}
		return
	}
	want := append(slow(p, 0), api.Inst{Kind: api.IMatch})
	if e != api.OK || !slices.Equal(l, want) {
		t.Fatalf("Compile = %.500s, %v; want %.500s", told(l), e, told(want))
	}
	if !prog.Right(l) || len(l) != pattern.Size(p)+1 {
		t.Fatalf("compiled, but right: %v, of %d steps and one: %.500s", prog.Right(l), pattern.Size(p), told(l))
	}
}

// isOf holds a pattern's program against what the layer below tells of the pattern.
func isOf(t *testing.T, s string) {
	t.Helper()
	l, e := prog.Of(s)
	p, _, want := pattern.Parse(s)
	if want == api.OK && pattern.Size(p) > api.MaxSteps {
		want = api.ErrMany
	}
	if e != want || e != api.OK && len(l) != 0 {
		t.Fatalf("Of(%.200q) = %.300s, %v; want %v", s, told(l), e, want)
	}
	if e != api.OK {
		return
	}
	if m, _ := prog.Compile(p); !slices.Equal(l, m) {
		t.Fatalf("Of(%.200q) = %.300s; Compile: %.300s", s, told(l), told(m))
	}
	isCompiled(t, p)
}

// eachText calls a function with each text of at most n of some signs.
func eachText(signs string, n int, do func(s string)) {
	do("")
	if n == 0 {
		return
	}
	for i := range len(signs) {
		eachText(signs, n-1, func(s string) { do(signs[i:i+1] + s) })
	}
}

// P15.1: the steps of each kind of pieces.
func TestOf(t *testing.T) {
	for s, want := range map[string]string{
		"":            `match`,
		"()":          `match`,
		"a":           `char "a" 1, match`,
		".":           `any 1, match`,
		"[a-c]":       `set 3bytes 1, match`,
		`\D`:          `set 246bytes 1, match`,
		`[^\d\D]`:     `set 0bytes 1, match`,
		"^":           `begin 1, match`,
		"$":           `end 1, match`,
		"\xff":        `char "\xff" 1, match`,
		"\x00":        `char "\x00" 1, match`,
		"\n":          `char "\n" 1, match`,
		"ab":          `char "a" 1, char "b" 2, match`,
		"a()b":        `char "a" 1, char "b" 2, match`,
		"^a.[b]$":     `begin 1, char "a" 2, any 3, set 1bytes 4, end 5, match`,
		"a|b":         `split 1 3, char "a" 2, jump 4, char "b" 4, match`,
		"|":           `split 1 2, jump 2, match`,
		"a|":          `split 1 3, char "a" 2, jump 3, match`,
		"|a":          `split 1 2, jump 3, char "a" 3, match`,
		"||":          `split 1 2, jump 4, split 3 4, jump 4, match`,
		"ab|cd|ef":    `split 1 4, char "a" 2, char "b" 3, jump 10, split 5 8, char "c" 6, char "d" 7, jump 10, char "e" 9, char "f" 10, match`,
		"(a|b)|c":     `split 1 6, split 2 4, char "a" 3, jump 5, char "b" 5, jump 7, char "c" 7, match`,
		"a|(b|c)":     `split 1 3, char "a" 2, jump 7, split 4 6, char "b" 5, jump 7, char "c" 7, match`,
		"x(a|b)y":     `char "x" 1, split 2 4, char "a" 3, jump 5, char "b" 5, char "y" 6, match`,
		"a*":          `split 1 3, char "a" 2, jump 0, match`,
		"xa*y":        `char "x" 1, split 2 4, char "a" 3, jump 1, char "y" 5, match`,
		"a+":          `char "a" 1, split 2 4, char "a" 3, jump 1, match`,
		"a?":          `split 1 2, char "a" 2, match`,
		"xa?y":        `char "x" 1, split 2 3, char "a" 3, char "y" 4, match`,
		"a{0}":        `match`,
		"a{0}b":       `char "b" 1, match`,
		"a{1}":        `char "a" 1, match`,
		"a{2}":        `char "a" 1, char "a" 2, match`,
		"a{0,}":       `split 1 3, char "a" 2, jump 0, match`,
		"a{2,}":       `char "a" 1, char "a" 2, split 3 5, char "a" 4, jump 2, match`,
		"a{0,2}":      `split 1 4, char "a" 2, split 3 4, char "a" 4, match`,
		"a{2,3}":      `char "a" 1, char "a" 2, split 3 4, char "a" 4, match`,
		"a{2,2}":      `char "a" 1, char "a" 2, match`,
		"()*":         `split 1 2, jump 0, match`,
		"()+":         `split 1 2, jump 0, match`,
		"(){2,4}":     `split 1 2, split 2 2, match`,
		"(){9}":       `match`,
		"(ab)*":       `split 1 4, char "a" 2, char "b" 3, jump 0, match`,
		"(a*)*":       `split 1 5, split 2 4, char "a" 3, jump 1, jump 0, match`,
		"(a*){2}":     `split 1 3, char "a" 2, jump 0, split 4 6, char "a" 5, jump 3, match`,
		"(a|b){2}":    `split 1 3, char "a" 2, jump 4, char "b" 4, split 5 7, char "a" 6, jump 8, char "b" 8, match`,
		"(a|b){1,2}":  `split 1 3, char "a" 2, jump 4, char "b" 4, split 5 9, split 6 8, char "a" 7, jump 9, char "b" 9, match`,
		"(a?){2}":     `split 1 2, char "a" 2, split 3 4, char "a" 4, match`,
		"(a{0,2})?":   `split 1 5, split 2 5, char "a" 3, split 4 5, char "a" 5, match`,
		"((a{2}){2})": `char "a" 1, char "a" 2, char "a" 3, char "a" 4, match`,
		"(a+)+":       `char "a" 1, split 2 4, char "a" 3, jump 1, split 5 10, char "a" 6, split 7 9, char "a" 8, jump 6, jump 4, match`,
		"(a*|b)|c*":   `split 1 8, split 2 6, split 3 5, char "a" 4, jump 2, jump 7, char "b" 7, jump 11, split 9 11, char "c" 10, jump 8, match`,
	} {
		l, e := prog.Of(s)
		if got := told(l); e != api.OK || got != want {
			t.Errorf("Of(%q) = %s, %v; want %s", s, got, e, want)
		}
		isOf(t, s)
	}
}

// P15.1: a step has its piece's Text, and no other one has any.
func TestTexts(t *testing.T) {
	for c := range 256 {
		b := string([]byte{byte(c)})
		set := class.Union(class.One(byte(c)), class.Span('a', 'c'))
		l, e := prog.Compile(seq(char(b), api.Piece{Kind: api.PSet, Text: set}))
		want := []api.Inst{{Kind: api.IChar, Text: b, X: 1}, {Kind: api.ISet, Text: set, X: 2}, {Kind: api.IMatch}}
		if e != api.OK || !slices.Equal(l, want) {
			t.Errorf("byte %d: %s, %v", c, told(l), e)
		}
	}
}

// P15.1: what Parse refuses, before what is too long.
func TestOfErrors(t *testing.T) {
	long := strings.Repeat("a", 4001)
	for s, want := range map[string]api.Errno{
		"*":                                api.ErrForm,
		"a)":                               api.ErrForm,
		"(a":                               api.ErrForm,
		"[":                                api.ErrForm,
		`\`:                                api.ErrForm,
		"a{":                               api.ErrForm,
		"a{1000}":                          api.ErrForm,
		"[b-a]":                            api.ErrRange,
		"a{101}":                           api.ErrRange,
		"a{2,1}":                           api.ErrRange,
		strings.Repeat("(", 65):            api.ErrMany,
		long:                               api.ErrMany,
		"(a{100}){41}":                     api.ErrMany,
		"(a{100}){40}b":                    api.ErrMany,
		"((a{100}){100}){0,}":              api.ErrMany,
		long + ")":                         api.ErrForm,
		long + "[b-a]":                     api.ErrRange,
		"(((a{100}){100}){100}){100}a{,1}": api.ErrForm,
	} {
		if l, e := prog.Of(s); len(l) != 0 || e != want {
			t.Errorf("Of(%.50q) = %.300s, %v; want %v", s, told(l), e, want)
		}
	}
}

// P15.1, P15.3: what has just as many steps as may be, and one more.
func TestMostSteps(t *testing.T) {
	for s, want := range map[string]int{
		strings.Repeat("a", 4000):                     4001,
		strings.Repeat("a", 4001):                     0,
		"(a{100}){40}":                                4001,
		"(a{100}){40}()b{0}":                          4001,
		"(a{100}){40}a":                               0,
		"(a{99}){40}(a{20}){2}":                       4001,
		strings.Repeat("|", 2000):                     4001,
		strings.Repeat("|", 2001):                     0,
		strings.Repeat("a*", 1333) + "b":              4001,
		strings.Repeat("a*", 1334):                    0,
		strings.Repeat("a?", 2000):                    4001,
		strings.Repeat("a?", 2000) + "b":              0,
		"((a{3}){13}){0,100}":                         4001,
		"((a{3}){13}b){0,100}":                        0,
		"(((a{100}){100}){100}){0}":                   1,
		"(((a{100}){100}){100}){0}b|c":                5,
		"((((a{100}){100}){100}){0}){3,}":             3,
		"(((a{100}){100}){100}){0,1}":                 0,
		strings.Repeat("(a|b)", 1000):                 4001,
		strings.Repeat("(a|b)", 1000) + "()":          4001,
		strings.Repeat("(a|b)", 1000) + "\xff":        0,
		strings.Repeat(`\w`, 4000) + "()":             4001,
		"a" + strings.Repeat("()", 1<<16):             2,
		"(" + strings.Repeat("(){7}", 1000) + "){2,}": 3,
	} {
		l, e := prog.Of(s)
		if want == 0 && (len(l) != 0 || e != api.ErrMany) || want > 0 && (len(l) != want || e != api.OK) {
			t.Errorf("Of(%.50q) = %d steps, %v; want %d", s, len(l), e, want)
		}
		isOf(t, s)
	}
}

// P15.1: what is not Right: no other error than ErrArg, whatever it is.
func TestCompileErrors(t *testing.T) {
	a := char("a")
	for i, p := range []api.Piece{
		{},
		plain(-1),
		plain(10),
		plain(1 << 40),
		plain(math.MinInt),
		plain(api.PChar),
		plain(api.PSet),
		plain(api.PSeq),
		plain(api.PAlt),
		plain(api.PRepeat),
		char("ab"),
		seq(a),
		alt(a),
		{Kind: api.PEmpty, Text: "a"},
		{Kind: api.PAny, Text: "a"},
		{Kind: api.PBegin, Kids: []api.Piece{a}},
		{Kind: api.PEnd, Top: -1},
		{Kind: api.PChar, Text: "a", Least: 1},
		{Kind: api.PSet, Text: zeros[1:]},
		{Kind: api.PSet, Text: zeros + "0"},
		{Kind: api.PSet, Text: zeros[1:] + "2"},
		rep(a, -1, -1),
		rep(a, 0, -2),
		rep(a, 2, 1),
		rep(a, 101, -1),
		rep(a, 0, 101),
		rep(a, math.MinInt, math.MaxInt),
		{Kind: api.PRepeat, Top: -1},
		{Kind: api.PRepeat, Top: -1, Kids: []api.Piece{a, a}},
		rep(rep(a, 100, 100), 41, 41),
		seq(slices.Repeat([]api.Piece{a}, 4001)...),
	} {
		for j, p := range []api.Piece{p, seq(a, p), alt(p, a), rep(p, 1, -1), rep(p, 0, 1), rep(alt(a, seq(p, a)), 2, 2)} {
			if l, e := prog.Compile(p); len(l) != 0 || e != api.ErrArg {
				t.Errorf("%d %d: %.300s, %v", i, j, told(l), e)
			}
			isCompiled(t, rep(p, 0, 0))
		}
	}
}

// P15.1, P15.3: all short patterns.
func TestShort(t *testing.T) {
	eachText("ab|()*?", 6, func(s string) { isOf(t, s) })
	eachText(`a.^$|(){2,}+`, 4, func(s string) { isOf(t, s) })
	eachText("01,2}", 5, func(s string) { isOf(t, "x(a|b*){"+s) })
}

// chanceTimes answers how often at least, and at most, a piece may be there.
func chanceTimes(chance *rand.Rand) (int, int) {
	most := []int{1, 3, 3, 20, 100}[chance.Intn(5)]
	least := chance.Intn(most + 1)
	if chance.Intn(3) == 0 {
		return least, -1
	}
	return least, least + chance.Intn(most-least+1)
}

// chancePiece answers a piece of at most so many pieces in one another.
func chancePiece(chance *rand.Rand, deep int) api.Piece {
	p := plain(1 + chance.Intn(9))
	if deep <= 1 {
		p.Kind = 1 + chance.Intn(6)
	}
	switch p.Kind {
	case api.PChar:
		p.Text = string([]byte{byte(chance.Intn(256))})
	case api.PSet:
		p.Text = class.Span(byte(chance.Intn(256)), byte(chance.Intn(256)))
	case api.PSeq, api.PAlt:
		for range 2 + chance.Intn(3) {
			p.Kids = append(p.Kids, chancePiece(chance, deep-1))
		}
	case api.PRepeat:
		p.Kids = []api.Piece{chancePiece(chance, deep-1)}
		p.Least, p.Top = chanceTimes(chance)
	}
	return p
}

// spoil changes a field of a piece, or of one within.
func spoil(chance *rand.Rand, p *api.Piece) {
	for len(p.Kids) > 0 && chance.Intn(3) > 0 {
		p = &p.Kids[chance.Intn(len(p.Kids))]
	}
	switch chance.Intn(5) {
	case 0:
		p.Kind = chance.Intn(12) - 1
	case 1:
		p.Text += "1"
	case 2:
		p.Least += chance.Intn(3) - 1
	case 3:
		p.Top += chance.Intn(3) - 1
	case 4:
		p.Kids = p.Kids[:max(0, len(p.Kids)-1)]
	}
}

// P15.1, P15.3: pieces by chance, and such with one field changed.
func TestChance(t *testing.T) {
	chance := rand.New(rand.NewSource(15))
	right := 0
	for range 6000 {
		p := chancePiece(chance, 1+chance.Intn(5))
		if pattern.Right(p) {
			right++
		}
		isCompiled(t, p)
		spoil(chance, &p)
		isCompiled(t, p)
	}
	if right < 3000 {
		t.Errorf("only %d pieces by chance were right", right)
	}
}

// ends answers at which places a program ends that is begun with a step at a place of a text: each step is gone on with once at each place.
func ends(l []api.Inst, s string) []int {
	seen := map[[2]int]bool{}
	var out []int
	var on func(i, at int)
	on = func(i, at int) {
		if seen[[2]int{i, at}] {
			return
		}
		seen[[2]int{i, at}] = true
		x := l[i]
		switch {
		case x.Kind == api.IMatch:
			out = append(out, at)
		case x.Kind == api.IJump, x.Kind == api.IBegin && at == 0, x.Kind == api.IEnd && at == len(s):
			on(x.X, at)
		case x.Kind == api.ISplit:
			on(x.X, at)
			on(x.Y, at)
		case at == len(s):
		case x.Kind == api.IChar && x.Text == s[at:at+1], x.Kind == api.IAny && s[at] != '\n', x.Kind == api.ISet && class.Has(x.Text, s[at]):
			on(x.X, at+1)
		}
	}
	on(0, 0)
	return out
}

// P15.1: a program takes the texts that Go's library takes by the same pattern.
func TestMeaning(t *testing.T) {
	takes := func(s string) {
		l, e := prog.Of(s)
		if e != api.OK {
			return
		}
		whole, err := regexp.Compile(`\A(?:` + s + `)\z`)
		if err != nil {
			t.Fatalf("%q is no pattern for Go", s)
		}
		eachText("ab\n", 3, func(text string) {
			if got, want := slices.Contains(ends(l, text), len(text)), whole.MatchString(text); got != want {
				t.Fatalf("the program of %q takes %q: %v, want %v", s, text, got, want)
			}
		})
	}
	eachText("ab|()*", 5, takes)
	eachText("a.|?+$", 4, takes)
	eachText("(a|){2,", 3, func(s string) { takes(s + "b?){1,2}") })
	for _, s := range []string{"[^a]*b", `\s?a{2,}|\Sb{0,1}`, "(a|b){2}", "(a*b){2,3}", "((a|b)b?){2,}", "(a?){3}b", "(^a|b$)+", "(|a|(b|a.)+)*b", `(\w\W){0,1}a*`} {
		takes(s)
	}
}

// texts are such as a step may have, and such as it may not.
func texts() []string {
	return []string{"", "a", "0", "1", "\x00", "\xff", "\n", "ab", "\u00e9", zeros, strings.Repeat("1", 256), strings.Repeat("01", 128), zeros[1:], zeros + "0", zeros[1:] + "2", "2" + zeros[1:], zeros[:100] + "/" + zeros[:155], strings.Repeat("\x01", 256), strings.Repeat("a", 256), strings.Repeat("\u00e9", 128), zeros + zeros}
}

// P15.2: steps of each kind with each field, by themselves and among others.
func TestRight(t *testing.T) {
	if prog.Right(nil) || prog.Right([]api.Inst{}) {
		t.Error("a program without steps")
	}
	match := api.Inst{Kind: api.IMatch}
	places := []int{math.MinInt, -2, -1, 0, 1, 2, 3, 4, math.MaxInt}
	for _, kind := range []int{math.MinInt, -1, 0, 1, 2, 3, 4, 5, 6, 7, 8, 9, 10, 1 << 32, 1<<32 + 1, math.MaxInt} {
		for _, text := range texts() {
			for _, x := range places {
				for _, y := range places {
					step := api.Inst{Kind: kind, Text: text, X: x, Y: y}
					for _, l := range [][]api.Inst{{step}, {step, match}, {match, step, match}, {match, match, step}} {
						if got, want := prog.Right(l), slowRight(l); got != want {
							t.Fatalf("Right(%.500s) = %v", told(l), got)
						}
					}
				}
			}
		}
	}
}

// P15.2: what is right of each kind of steps, and what isn't.
func TestRightSteps(t *testing.T) {
	for _, c := range []struct {
		x    api.Inst
		want bool
	}{
		{api.Inst{Kind: api.IChar, Text: "a", X: 1}, true},
		{api.Inst{Kind: api.IChar, Text: "a"}, true},
		{api.Inst{Kind: api.IChar, Text: "a", X: 2}, false},
		{api.Inst{Kind: api.IChar, Text: "a", X: -1}, false},
		{api.Inst{Kind: api.IChar, Text: "a", Y: 1}, false},
		{api.Inst{Kind: api.IChar, X: 1}, false},
		{api.Inst{Kind: api.IChar, Text: "ab", X: 1}, false},
		{api.Inst{Kind: api.IChar, Text: "\u00e9", X: 1}, false},
		{api.Inst{Kind: api.IAny, X: 1}, true},
		{api.Inst{Kind: api.IAny, Text: "a", X: 1}, false},
		{api.Inst{Kind: api.ISet, Text: zeros, X: 1}, true},
		{api.Inst{Kind: api.ISet, Text: class.Not(zeros), X: 1}, true},
		{api.Inst{Kind: api.ISet, Text: class.Span('a', 'z'), Y: 1}, false},
		{api.Inst{Kind: api.ISet, Text: zeros[1:], X: 1}, false},
		{api.Inst{Kind: api.ISet, X: 1}, false},
		{api.Inst{Kind: api.ISet, Text: zeros[1:] + "2", X: 1}, false},
		{api.Inst{Kind: api.IBegin, X: 1}, true},
		{api.Inst{Kind: api.IBegin, X: 2}, false},
		{api.Inst{Kind: api.IEnd}, true},
		{api.Inst{Kind: api.IEnd, X: 1, Y: 1}, false},
		{api.Inst{Kind: api.ISplit}, true},
		{api.Inst{Kind: api.ISplit, X: 1, Y: 1}, true},
		{api.Inst{Kind: api.ISplit, X: 1, Y: 2}, false},
		{api.Inst{Kind: api.ISplit, X: 2, Y: 1}, false},
		{api.Inst{Kind: api.ISplit, Y: -1}, false},
		{api.Inst{Kind: api.ISplit, Text: "a"}, false},
		{api.Inst{Kind: api.IMatch}, true},
		{api.Inst{Kind: api.IMatch, X: 1}, false},
		{api.Inst{Kind: api.IMatch, Y: 1}, false},
		{api.Inst{Kind: api.IMatch, Text: "a"}, false},
		{api.Inst{Kind: api.IJump}, true},
		{api.Inst{Kind: api.IJump, X: 1}, true},
		{api.Inst{Kind: api.IJump, X: 2}, false},
		{api.Inst{Kind: api.IJump, X: 1, Y: 1}, false},
		{api.Inst{Kind: api.IJump, Text: zeros}, false},
		{api.Inst{}, false},
		{api.Inst{Kind: 9}, false},
		{api.Inst{Kind: -1}, false},
	} {
		if got := prog.Right([]api.Inst{c.x, {Kind: api.IMatch}}); got != c.want {
			t.Errorf("Right of %+v and IMatch = %v", c.x, got)
		}
		if got := prog.Right([]api.Inst{{Kind: api.IMatch}, c.x}); got != c.want {
			t.Errorf("Right of IMatch and %+v = %v", c.x, got)
		}
	}
	if !prog.Right([]api.Inst{{Kind: api.IJump}}) || !prog.Right([]api.Inst{{Kind: api.IMatch}, {Kind: api.IMatch}}) || prog.Right([]api.Inst{{Kind: api.IMatch, X: 1}, {Kind: api.IMatch}}) {
		t.Error("programs without IMatch, with two, with an X")
	}
}

// P15.2: each byte by itself, and in a set.
func TestRightBytes(t *testing.T) {
	for c := range 256 {
		b := string([]byte{byte(c)})
		if !prog.Right([]api.Inst{{Kind: api.IChar, Text: b}}) {
			t.Errorf("byte %d isn't right", c)
		}
		for i := range 256 {
			if got, want := prog.Right([]api.Inst{{Kind: api.ISet, Text: zeros[:i] + b + zeros[i+1:]}}), b == "0" || b == "1"; got != want {
				t.Fatalf("Right of a set with byte %d at %d = %v", c, i, got)
			}
		}
	}
}

// P15.2, P15.3: programs of pieces by chance with one field changed, or cut short.
func TestRightChance(t *testing.T) {
	chance := rand.New(rand.NewSource(152))
	for range 3000 {
		l, e := prog.Compile(chancePiece(chance, 3))
		if e != api.OK || len(l) > 50 {
			continue
		}
		x := &l[chance.Intn(len(l))]
		switch chance.Intn(5) {
		case 0:
			x.Kind = chance.Intn(11) - 1
		case 1:
			x.Text = texts()[chance.Intn(len(texts()))]
		case 2:
			x.X = chance.Intn(len(l)+4) - 2
		case 3:
			x.Y = chance.Intn(len(l)+4) - 2
		case 4:
			l = l[:chance.Intn(len(l))]
		}
		if got, want := prog.Right(l), slowRight(l); got != want {
			t.Fatalf("Right(%.500s) = %v", told(l), got)
		}
	}
}

// R1: what is empty may be asked for as often as patterns allow, and that as often, and still ends at once.
func TestEmptyRepeated(t *testing.T) {
	for _, inner := range []string{"", "()", "()()", "a{0}", "(a{100}){0}"} {
		// Brackets are left for the inner ones, and for those around them all.
		for n := 1; n <= api.MaxDeep-2; n++ {
			s := strings.Repeat("(", n) + inner + strings.Repeat("){100}", n)
			if l, e := prog.Of(s); e != api.OK || told(l) != "match" {
				t.Fatalf("Of(%q) = %.300s, %v", s, told(l), e)
			}
			if l, e := prog.Of("a(" + s + "){99,}b"); e != api.OK || told(l) != `char "a" 1, split 2 3, jump 1, char "b" 4, match` {
				t.Fatalf("Of(a(%q){99,}b) = %.300s, %v", s, told(l), e)
			}
		}
	}
	wide := seq(append(slices.Repeat([]api.Piece{plain(api.PEmpty)}, 1<<20), char("a"))...)
	if l, e := prog.Compile(rep(rep(wide, 100, 100), 40, 40)); e != api.OK || len(l) != 4001 {
		t.Errorf("%d steps, %v", len(l), e)
	}
}

// R1, P15.3: pieces of any depth.
func TestDeep(t *testing.T) {
	a, empty := char("a"), plain(api.PEmpty)
	for _, deep := range []int{65, 1000, 1333, 1334, 1999, 2000, 3999, 4000, 1 << 16} {
		for i, c := range []struct {
			in   api.Piece
			deep func(p api.Piece) api.Piece
			want int
		}{
			{a, func(p api.Piece) api.Piece { return seq(p, a) }, deep + 2},
			{a, func(p api.Piece) api.Piece { return seq(empty, p) }, 2},
			{a, func(p api.Piece) api.Piece { return alt(a, p) }, 3*deep + 2},
			{a, func(p api.Piece) api.Piece { return alt(p, empty) }, 2*deep + 2},
			{a, func(p api.Piece) api.Piece { return rep(p, 1, 1) }, 2},
			{a, func(p api.Piece) api.Piece { return rep(p, 0, 1) }, deep + 2},
			{a, func(p api.Piece) api.Piece { return rep(p, 0, -1) }, 2*deep + 2},
			{a, func(p api.Piece) api.Piece { return rep(p, 0, 0) }, 1},
			{empty, func(p api.Piece) api.Piece { return rep(p, 100, 100) }, 1},
			{plain(10), func(p api.Piece) api.Piece { return rep(p, 0, 0) }, 4002},
		} {
			p := c.in
			for range deep {
				p = c.deep(p)
			}
			l, e := prog.Compile(p)
			if c.want > 4001 && (len(l) != 0 || e != api.ErrArg) || c.want <= 4001 && (len(l) != c.want || e != api.OK || !prog.Right(l)) {
				t.Errorf("%d deep, %d: %d steps, %v; want %d", deep, i, len(l), e, c.want)
			}
		}
	}
}

// R1: long programs end soon.
func TestLong(t *testing.T) {
	const n = 1 << 18
	l := make([]api.Inst, n)
	for i := range l {
		l[i] = api.Inst{Kind: api.ISplit, X: n - 1 - i, Y: i}
	}
	if !prog.Right(l) {
		t.Error("a long program")
	}
	l[n-1].Y = n
	if prog.Right(l) {
		t.Error("a long program with a place that it hasn't")
	}
	if prog.Right([]api.Inst{{Kind: api.ISet, Text: strings.Repeat("1", 1<<26)}}) {
		t.Error("a long text")
	}
	for _, s := range []string{strings.Repeat("a", n), strings.Repeat("a*|", n), strings.Repeat("(", n)} {
		if p, e := prog.Of(s); len(p) != 0 || e != api.ErrMany {
			t.Errorf("Of(%.20q..) = %v", s, e)
		}
	}
	empty := slices.Repeat([]api.Piece{plain(api.PEmpty)}, n)
	if p, e := prog.Compile(seq(empty...)); e != api.OK || told(p) != "match" {
		t.Errorf("%v", e)
	}
}

// clone answers a piece that shares nothing with another one.
func clone(p api.Piece) api.Piece {
	p.Kids = slices.Clone(p.Kids)
	for i, k := range p.Kids {
		p.Kids[i] = clone(k)
	}
	return p
}

// same tells whether two pieces are one, field by field.
func same(p, q api.Piece) bool {
	return p.Kind == q.Kind && p.Text == q.Text && p.Least == q.Least && p.Top == q.Top && slices.EqualFunc(p.Kids, q.Kids, same)
}

// R3, R4: what is handed in isn't changed, and what is answered hangs on it alone.
func TestNothingShared(t *testing.T) {
	chance := rand.New(rand.NewSource(153))
	for range 500 {
		p := chancePiece(chance, 4)
		was := clone(p)
		l, e := prog.Compile(p)
		if !same(p, was) {
			t.Fatal("Compile changed a piece")
		}
		if e != api.OK {
			continue
		}
		m := slices.Clone(l)
		prog.Right(l)
		if !slices.Equal(l, m) {
			t.Fatal("Right changed a program")
		}
		for i := range l {
			l[i] = api.Inst{Kind: 77}
		}
		_ = append(l, api.Inst{Kind: 77})
		if l, _ := prog.Compile(p); !slices.Equal(l, m) {
			t.Fatalf("again: %.300s; want %.300s", told(l), told(m))
		}
	}
}
