package words_test

import (
	"regexp"
	"slices"
	"strings"
	"testing"

	"linhay/api"
	"linhay/words"
)

// checkSplit holds what Split answers against the words and the error that are asked for.
func checkSplit(t *testing.T, s string, want []string, wantE api.Errno) {
	t.Helper()
	l, e := words.Split(s)
	if e != wantE || !slices.Equal(l, want) {
		t.Errorf("Split(%.40q, %d bytes) = %.60q, %v, not %.60q, %v", s, len(s), l, e, want, wantE)
	}
}

// P2.1: ordinary lines, blanks, quotes and backslashes.
func TestSplit(t *testing.T) {
	for s, want := range map[string][]string{
		// Blanks, many of them, ahead and behind.
		"":                 nil,
		" ":                nil,
		"\t":               nil,
		" \t\t  \t":        nil,
		"a":                {"a"},
		"a b":              {"a", "b"},
		"a\tb":             {"a", "b"},
		"  a\t b ":         {"a", "b"},
		"\t\ta  \t\t  b\t": {"a", "b"},
		"stow -d /s -t /":  {"stow", "-d", "/s", "-t", "/"},
		// No other byte is a blank, nor stands for another one.
		"a\rb\vc\fd":             {"a\rb\vc\fd"},
		"a\u00a0b\u2003c\u0085d": {"a\u00a0b\u2003c\u0085d"},
		"\x01\x7f\x80\xff \xc3(": {"\x01\x7f\x80\xff", "\xc3("},
		"\"a b\"":                {"\"a", "b\""},
		"`$x` #y ;z |&*?":        {"`$x`", "#y", ";z", "|&*?"},
		// Empty words.
		"''":            {""},
		"'' ''":         {"", ""},
		" ''\t":         {""},
		"x '' y":        {"x", "", "y"},
		"''''":          {""},
		"a''b":          {"ab"},
		"''a":           {"a"},
		"a''":           {"a"},
		"'a' '' '' 'b'": {"a", "", "", "b"},
		// Quotes beside other bytes, and what stands in them.
		"'a'":             {"a"},
		"'a b'c":          {"a bc"},
		"a'b c'd":         {"ab cd"},
		"'a''b'":          {"ab"},
		"'a' 'b'":         {"a", "b"},
		"'a'\t'b'":        {"a", "b"},
		"' '":             {" "},
		"' \t '":          {" \t "},
		"'\t'\\ '\t'":     {"\t \t"},
		"a'  'b'\t'c d":   {"a  b\tc", "d"},
		"'a\\'":           {"a\\"},
		"a'\\'b":          {"a\\b"},
		"'\\\\'":          {"\\\\"},
		"'\\' '\\ '":      {"\\", "\\ "},
		"'\\n\\t'":        {"\\n\\t"},
		"'a'\\''b'":       {"a'b"},
		"'\\'\\''\\'":     {"\\'\\"},
		"\xff'\xfe \xfd'": {"\xff\xfe \xfd"},
		// Backslashes.
		"\\a":           {"a"},
		"\\ ":           {" "},
		"\\\t":          {"\t"},
		"\\'":           {"'"},
		"\\\\":          {"\\"},
		"\\ \\\\":       {" \\"},
		"a\\ b":         {"a b"},
		"a \\ b":        {"a", " b"},
		"a\\  b":        {"a ", "b"},
		"a \\  b":       {"a", " ", "b"},
		"\\n\\t\\0":     {"nt0"},
		"\\\\ \\\\\\\\": {"\\", "\\\\"},
		"\\'a b\\'":     {"'a", "b'"},
		"it\\'s":        {"it's"},
		"\\\xff":        {"\xff"},
		"a\\\u00e4":     {"a\u00e4"},
		"a 'b c' \\'d":  {"a", "b c", "'d"},
		"a \\\\'d e' f": {"a", "\\d e", "f"},
	} {
		checkSplit(t, s, want, api.OK)
	}
}

// P2.1: lines that are none.
func TestSplitForm(t *testing.T) {
	for _, s := range []string{
		// A quote that doesn't end.
		"'", "a'", "'a", "a 'b", "'''", "'a''", "'a' '", "''a'", "'a b ", "'a\\", "'\\", "'\\ ", "a\\''", "\\''", "'a\\'b'", "\\\\'d",
		// A backslash at the end.
		"\\", "a\\", "a \\", "\\\\\\", "''\\", "'a'\\", "\\ \\", "\\'\\", "a \\\\'d e' \\",
		// Bytes 10 and 0, wherever they stand.
		"\n", "\x00", "a\n", "\na", "a\nb", "a \n b", "a\x00", "\x00a", " \x00", "a b c\n", "a b c\x00",
		"'\n'", "'\x00'", "'a\nb'", "'a\x00b'", "'\n", "'\x00", "''\n", "''\x00",
		"\\\n", "\\\x00", "a\\\nb", "a\\\x00b", "\\\\\n", "'\\\n'", "'\\\x00'", "\\\n\\", "\r\n",
	} {
		checkSplit(t, s, nil, api.ErrForm)
	}
}

// P2.1: words of MaxWord bytes, and of one more: bytes are counted as the word has them, not as the line has them.
func TestSplitLongWords(t *testing.T) {
	full := strings.Repeat("a", api.MaxWord)
	blanks := strings.Repeat(" ", api.MaxWord)
	for s, want := range map[string][]string{
		full:                                     {full},
		full + " " + full + "\t" + full:          {full, full, full},
		full + " b":                              {full, "b"},
		"  " + full + " \t":                      {full},
		"'" + full + "'":                         {full},
		full + "''":                              {full},
		"''" + full:                              {full},
		full + "'' " + full + "''''":             {full, full},
		"'" + full[2:] + "'\\a'a'":               {full},
		strings.Repeat("\\a", api.MaxWord):       {full},
		strings.Repeat("'a'", api.MaxWord):       {full},
		strings.Repeat("''", api.MaxWord) + full: {full},
		"'" + blanks + "'":                       {blanks},
		blanks + blanks + "a" + blanks + blanks:  {"a"},
		strings.Repeat("\xff", api.MaxWord):      {strings.Repeat("\xff", api.MaxWord)},
		strings.Repeat("\\'", api.MaxWord):       {strings.Repeat("'", api.MaxWord)},
		strings.Repeat(full+" ", 3) + "x":        {full, full, full, "x"},
	} {
		checkSplit(t, s, want, api.OK)
	}
	for _, s := range []string{
		full + "a", full + "aa", "b " + full + "a", full + " " + full + "a", "'" + full + "a'", "'" + full + " '", full + "'a'", full + "''a",
		full + "\\a", full + "\\ ", full + "\\\\", full + "' '", "'" + full + "\\'", "'" + full + "'a", "''" + full + "a", full + "\xff",
		strings.Repeat("\\a", api.MaxWord+1), strings.Repeat("'a'", api.MaxWord+1), strings.Repeat("\u00e4", api.MaxWord/2) + "a",
		full + "a b c",
	} {
		checkSplit(t, s, nil, api.ErrMany)
	}
}

// P2.1: of several errors it is the one that is met first from the left.
func TestSplitFirstError(t *testing.T) {
	full := strings.Repeat("a", api.MaxWord)
	for s, want := range map[string]api.Errno{
		// One byte more, then what is met behind it.
		full + "a\n": api.ErrMany, full + "a\x00": api.ErrMany, full + "a b\n": api.ErrMany,
		full + "a'": api.ErrMany, full + "a\\": api.ErrMany, full + "'a": api.ErrMany, "'" + full + "a": api.ErrMany,
		full + "\\a\\": api.ErrMany, "'" + full + "\\": api.ErrMany, full + "\\'": api.ErrMany, full + "\\\\": api.ErrMany,
		full + "a b '": api.ErrMany,
		// Bytes 10 and 0 ahead of it, or just there.
		"\n" + full + "a": api.ErrForm, "\x00 " + full + "a": api.ErrForm, "a\nb " + full + "a": api.ErrForm,
		full + "\n": api.ErrForm, full + "\x00": api.ErrForm, full + "\na": api.ErrForm, full[1:] + "\na": api.ErrForm, full + "\\\n": api.ErrForm, full + "\\\x00": api.ErrForm,
		full + "'\n'": api.ErrForm, full + "'\x00'": api.ErrForm, "'" + full + "\n'": api.ErrForm, full + " \n" + full + "a": api.ErrForm,
		// What doesn't end is met at the end: of a word that isn't too long.
		full + "'": api.ErrForm, full + "\\": api.ErrForm, "'" + full: api.ErrForm, full + " '": api.ErrForm, full + " \\": api.ErrForm,
		full + "'''": api.ErrForm,
	} {
		checkSplit(t, s, nil, want)
	}
}

// P2.1: of all short lines Split answers what a slow, plain splitter does.
func TestSplitLikeReference(t *testing.T) {
	forEachText("ab '\\\t\n", 6, func(s string) {
		want, ok := splitSlowly(s)
		l, e := words.Split(s)
		if ok != (e == api.OK) || !ok && e != api.ErrForm || !slices.Equal(l, want) {
			t.Fatalf("Split(%q) = %q, %v, not %q, %v", s, l, e, want, ok)
		}
	})
}

// P2.2: Quote.
func TestQuote(t *testing.T) {
	many := strings.Repeat("'", api.MaxWord+1)
	for s, want := range map[string]string{
		"":  "''",
		"a": "a", "/a/b.c": "/a/b.c", "-x=1": "-x=1", "\"": "\"", "$`*?;#": "$`*?;#",
		" ": "' '", "\t": "'\t'", "'": "''\\'''", "\\": "'\\'",
		"b c": "'b c'", " b": "' b'", "b ": "'b '", "b\tc": "'b\tc'", "b\\c": "'b\\c'", "\\\\": "'\\\\'",
		"it's": "'it'\\''s'", "''": "''\\'''\\'''", "'a'": "''\\''a'\\'''", "' '": "''\\'' '\\'''", "\\'": "'\\'\\'''",
		// No other byte asks for quotes.
		"\n": "\n", "\x00": "\x00", "a\nb\x00": "a\nb\x00", "\r\v\f": "\r\v\f", "\x1f!&([]^_`~\x7f": "\x1f!&([]^_`~\x7f",
		"a\n b": "'a\n b'", "\x00'": "'\x00'\\'''",
		"\u00e4\u00a0\u2003": "\u00e4\u00a0\u2003", "\x80\xa0\xff": "\x80\xa0\xff", "\xff \xfe": "'\xff \xfe'", "\xc3'\xa4": "'\xc3'\\''\xa4'",
		many:                             "'" + strings.Repeat("'\\''", api.MaxWord+1) + "'",
		strings.Repeat("a", 100000):      strings.Repeat("a", 100000),
		strings.Repeat("a", 5000) + "\\": "'" + strings.Repeat("a", 5000) + "\\'",
	} {
		if got := words.Quote(s); got != want {
			t.Errorf("Quote(%.40q) = %.60q, not %.60q", s, got, want)
		}
	}
}

// P2.2: just four bytes, by themselves or within a word, ask for quotes.
func TestQuoteEachByte(t *testing.T) {
	for c := range 256 {
		for _, s := range []string{string([]byte{byte(c)}), string([]byte{'x', byte(c), 'y'})} {
			plain := c != 32 && c != 9 && c != 39 && c != 92
			if got := words.Quote(s); (got == s) != plain || !plain && (got[0] != '\'' || got[len(got)-1] != '\'') {
				t.Errorf("Quote(%q) = %q", s, got)
			}
		}
	}
}

// P2.2: Join.
func TestJoin(t *testing.T) {
	for _, c := range []struct {
		l    []string
		want string
	}{
		{nil, ""}, {[]string{}, ""},
		{[]string{""}, "''"}, {[]string{"", ""}, "'' ''"}, {[]string{"a"}, "a"}, {[]string{"a", "b"}, "a b"},
		{[]string{" ", "\t"}, "' ' '\t'"},
		{[]string{"a", "", "b c", "it's", "\\"}, "a '' 'b c' 'it'\\''s' '\\'"},
		{[]string{"link", "/t/x y", "../s/x y"}, "link '/t/x y' '../s/x y'"},
		{[]string{"a\nb", "\x00"}, "a\nb \x00"},
	} {
		if got := words.Join(c.l); got != c.want {
			t.Errorf("Join(%q) = %q, not %q", c.l, got, c.want)
		}
	}
}

// R3: what is handed in isn't changed.
func TestJoinKeepsItsList(t *testing.T) {
	l := []string{"a b", "", "it's"}
	words.Join(l)
	if !slices.Equal(l, []string{"a b", "", "it's"}) {
		t.Errorf("Join made its list %q", l)
	}
}

// P2.3: what is joined is split again.
func checkJoined(t *testing.T, l []string) {
	t.Helper()
	if got, e := words.Split(words.Join(l)); e != api.OK || !slices.Equal(got, l) {
		t.Fatalf("Split(Join(%.60q)) = %.60q, %v", l, got, e)
	}
}

func TestJoinedIsSplit(t *testing.T) {
	texts := []string{}
	forEachText("a '\\\t", 4, func(s string) {
		checkJoined(t, []string{s})
		if len(s) <= 2 {
			texts = append(texts, s)
		}
	})
	for _, a := range texts {
		for _, b := range texts {
			checkJoined(t, []string{a, b})
			for _, c := range texts[:12] {
				checkJoined(t, []string{a, c, b})
			}
		}
	}
	checkJoined(t, nil)
	checkJoined(t, texts)
}

// P2.3: each byte but 10 and 0, and words as long as may be.
func TestJoinedIsSplitAtEdges(t *testing.T) {
	for c := range 256 {
		s := string([]byte{byte(c)})
		if c == 0 || c == 10 {
			checkSplit(t, words.Join([]string{s}), nil, api.ErrForm)
			continue
		}
		full := strings.Repeat(s, api.MaxWord)
		checkJoined(t, []string{s, full, "x" + s + "y", full[1:]})
		checkSplit(t, words.Join([]string{"x", full + s}), nil, api.ErrMany)
	}
}

// R4: what is answered hangs on no earlier call, and stays what it is.
func TestSplitKeepsNothing(t *testing.T) {
	first, _ := words.Split("ab 'c d'")
	words.Split("xyz 'u")
	words.Split("vw")
	if !slices.Equal(first, []string{"ab", "c d"}) {
		t.Errorf("an earlier answer became %q", first)
	}
	checkSplit(t, "e f", []string{"e", "f"}, api.OK)
}

// R1: long lines end soon.
func TestSplitLong(t *testing.T) {
	const n = 1 << 20
	if l, e := words.Split(strings.Repeat("a '' ", n)); len(l) != 2*n || e != api.OK {
		t.Errorf("%d words, %v", len(l), e)
	}
	if l, e := words.Split(strings.Repeat(" ", 16*n)); len(l) != 0 || e != api.OK {
		t.Errorf("%d words, %v", len(l), e)
	}
	checkSplit(t, strings.Repeat("''", 4*n)+"\\", nil, api.ErrForm)
}

var (
	wordOf  = regexp.MustCompile(`(?s)^([^ \t'\\]|'[^']*'|\\.)+`)
	pieceOf = regexp.MustCompile(`(?s)'[^']*'|\\.|[^'\\]`)
)

// splitSlowly answers the words of a line none of whose words is too long, as the chapter tells it.
func splitSlowly(s string) ([]string, bool) {
	if strings.ContainsAny(s, "\n\x00") {
		return nil, false
	}
	list := []string{}
	for s = strings.TrimLeft(s, " \t"); s != ""; s = strings.TrimLeft(s, " \t") {
		word := wordOf.FindString(s)
		s = s[len(word):]
		if word == "" || s != "" && s[0] != ' ' && s[0] != '\t' {
			return nil, false
		}
		list = append(list, pieceOf.ReplaceAllStringFunc(word, func(piece string) string {
			switch piece[0] {
			case '\'':
				return piece[1 : len(piece)-1]
			case '\\':
				return piece[1:]
			}
			return piece
		}))
	}
	return list, true
}

// forEachText calls do with all texts of at most n of the letters.
func forEachText(letters string, n int, do func(string)) {
	var grow func(string)
	grow = func(s string) {
		do(s)
		if len(s) == n {
			return
		}
		for i := range len(letters) {
			grow(s + letters[i:i+1])
		}
	}
	grow("")
}
