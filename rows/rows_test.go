package rows_test

import (
	"cmp"
	"fmt"
	"math"
	"math/rand"
	"slices"
	"strconv"
	"strings"
	"testing"

	"linhay/api"
	"linhay/rows"
	"linhay/words"
)

var (
	full = strings.Repeat("n", api.MaxName)
	word = strings.Repeat("w", api.MaxWord)
	// A clean path of right names, and of MaxPath bytes.
	longest = strings.Repeat("/"+full[1:], api.MaxPath/api.MaxName)
	kinds   = []int{api.Dir, api.File, api.Link}
	// Kinds of nodes that there aren't.
	noKinds = []int{0, -1, 4, 5, 7, 64, 'd', 'f', 'l', 256 + api.Dir, -api.Link, math.MaxInt, math.MinInt}
	// Paths that a row may have.
	rightPaths = []string{
		"/a", "/a/b", "/a/b/c", "/d", "/f", "/l", "/d/f/l", "/...", "/.a", "/..a/b..", "/ ", "/a b", "/ a /b ", "/\t", "/a'b", "/'", "/\\", "/a\\/b", "/#", "/<", "/-", "/%41",
		"/\x01", "/\r", "/\v\f", "/\x7f", "/\x80", "/\xff\xfe", "/\u00e4", "/\ufeff", "/\u2028", "/" + full, longest[1+len(full[1:]):], longest,
	}
	// Paths that aren't clean, / alone, or have names or lengths that may not be.
	wrongPaths = []string{
		"", "/", "a", "a/b", "//", "///", "/a/", "//a", "/a//b", ".", "..", "/.", "/..", "/./a", "/../a", "/a/.", "/a/..", "/a/./b", "/a/../b", "./a", "../a", " /a", "\\/a", "~",
		"/" + full + "n", "/a/" + full + "n/b", longest + "n", "/" + word, word, "/a" + longest, longest + longest,
	}
	// Bytes that a file may have, and, but for the empty ones, a link.
	rightData = []string{
		"", "x", "x y", " ", "\t", "''", "'", "\\", "\\n", "a'b\\c d", "/a/b", "../x", "d /a", "\r", "\x01\x7f", "\x80\xff\xc3", "\u00e4\u4e2f", "\u2028", "#", "%00", "0", word[1:], word, strings.Repeat(" ", api.MaxWord), strings.Repeat("'", api.MaxWord),
	}
	// Bytes that no row may have.
	wrongData = []string{
		word + "w", word + word, word + " ", strings.Repeat("d", api.MaxFile), "\n", "a\n", "\na", "a\nb", "\n\n", "\x00", "a\x00", "\x00a", "a\x00b", "\r\n", word[1:] + "\n", word[1:] + "\x00", " \n", "'\n'", "\xff\n", "\xc3\x00",
	}
)

// dir answers a row.
func dir(p string) api.Row { return api.Row{Path: p, Kind: api.Dir} }

// file answers a row.
func file(p, data string) api.Row { return api.Row{Path: p, Kind: api.File, Data: data} }

// link answers a row.
func link(p, text string) api.Row { return api.Row{Path: p, Kind: api.Link, Data: text} }

// mayHave tells whether a node of a kind may have bytes, as the chapter says it.
func mayHave(kind int, data string) bool {
	return kind == api.Dir && data == "" || kind == api.File || kind == api.Link && data != ""
}

// isPath tells whether a row may have a short path, as the chapter says it.
func isPath(p string) bool {
	parts := strings.Split(p, "/")
	bad := func(s string) bool { return s == "" || s == "." || s == ".." }
	return len(parts) > 1 && parts[0] == "" && !slices.ContainsFunc(parts[1:], bad) && !strings.ContainsAny(p, "\n\x00")
}

// told answers rows as a short text.
func told(l ...api.Row) string {
	s := ""
	for _, x := range l {
		s += fmt.Sprintf("{%.80q %d %.80q}", x.Path, x.Kind, x.Data)
	}
	return s[:min(len(s), 1000)]
}

// checkRight holds what Right answers against what is asked for, and whether Line takes the row.
func checkRight(t *testing.T, x api.Row, want bool) {
	t.Helper()
	if got := rows.Right(x); got != want {
		t.Errorf("Right(%s) = %v", told(x), got)
	}
	s, e := rows.Line(x)
	if want && (s == "" || e != api.OK) || !want && (s != "" || e != api.ErrArg) {
		t.Errorf("Line(%s) = %.80q, %v", told(x), s, e)
	}
}

// checkLine holds what Line answers against the line that is asked for.
func checkLine(t *testing.T, x api.Row, want string) {
	t.Helper()
	if got, e := rows.Line(x); got != want || e != api.OK {
		t.Errorf("Line(%s) = %.80q, %v, not %.80q", told(x), got, e, want)
	}
}

// checkParse holds what Parse answers against what is asked for.
func checkParse(t *testing.T, s string, want api.Row, wantErr api.Errno) {
	t.Helper()
	if got, e := rows.Parse(s); got != want || e != wantErr {
		t.Errorf("Parse(%.80q) = %s, %v, not %s, %v", s, told(got), e, told(want), wantErr)
	}
}

// checkSort holds what Sort answers against the rows that are asked for.
func checkSort(t *testing.T, l, want []api.Row) {
	t.Helper()
	was := slices.Clone(l)
	if got := rows.Sort(l); !slices.Equal(got, want) {
		t.Errorf("Sort(%s) = %s, not %s", told(l...), told(got...), told(want...))
	}
	if !slices.Equal(l, was) {
		t.Errorf("Sort has made %s of %s", told(l...), told(was...))
	}
}

// P11.1: rows that may be, and rows with one thing that may not.
func TestRight(t *testing.T) {
	for _, p := range rightPaths {
		for _, kind := range kinds {
			for _, data := range rightData {
				checkRight(t, api.Row{Path: p, Kind: kind, Data: data}, mayHave(kind, data))
			}
			for _, data := range wrongData {
				checkRight(t, api.Row{Path: p, Kind: kind, Data: data}, false)
			}
		}
	}
	for _, p := range slices.Concat(rightPaths, wrongPaths) {
		for _, kind := range noKinds {
			checkRight(t, api.Row{Path: p, Kind: kind}, false)
			checkRight(t, api.Row{Path: p, Kind: kind, Data: "x"}, false)
		}
	}
	for _, p := range wrongPaths {
		for _, x := range []api.Row{dir(p), file(p, ""), file(p, "x"), link(p, "x"), link(p, ""), dir(p + "\n")} {
			checkRight(t, x, false)
		}
	}
	checkRight(t, api.Row{}, false)
}

// P11.1: of each byte, in a path and in the bytes, just 10 and 0 may not be.
func TestRightEachByte(t *testing.T) {
	for c := range 256 {
		b := string([]byte{byte(c)})
		want := c != 0 && c != 10
		for _, s := range []string{b, "x" + b, b + "x", "x" + b + "x", full + b, "x" + b + full} {
			checkRight(t, file("/x", s), want)
			checkRight(t, link("/x", s), want)
		}
		for _, p := range []string{"/x" + b + "x", "/x/" + b + "x", "/x" + b + "x/x"} {
			ok := want && p != "/x//x"
			checkRight(t, dir(p), ok)
			checkRight(t, file(p, ""), ok)
			checkRight(t, link(p, "x"), ok)
		}
	}
}

// P11.1: of all short paths just those that are clean, not / alone, and without bytes 10 and 0.
func TestRightPaths(t *testing.T) {
	for _, p := range textsOf("/.a\n\x00", 6) {
		checkRight(t, dir(p), isPath(p))
		checkRight(t, file(p, ""), isPath(p))
		checkRight(t, link(p, p+"x"), isPath(p))
	}
}

// P11.1: the line, word by word.
func TestLine(t *testing.T) {
	for want, x := range map[string]api.Row{
		"d /a": dir("/a"), "d /a/b": dir("/a/b"), "d '/a b'": dir("/a b"), `d '/a'\''b'`: dir("/a'b"), `d '/a\b'`: dir(`/a\b`), "d '/\t'": dir("/\t"), "d /d": dir("/d"), "d /\u00e4": dir("/\u00e4"), "d /\xff": dir("/\xff"), "d /#": dir("/#"),
		"f /a ''": file("/a", ""), "f /a x": file("/a", "x"), "f /a/b 'x y'": file("/a/b", "x y"), "f '/a b' 'c\\'": file("/a b", `c\`), "f /f f": file("/f", "f"), `f /a ''\'''`: file("/a", "'"), `f /a ''\'''\'''`: file("/a", "''"), "f /a ' '": file("/a", " "), "f /a \xff\r\x01": file("/a", "\xff\r\x01"), "f /a a\"b": file("/a", "a\"b"), "f /a #": file("/a", "#"),
		"l /a ../x": link("/a", "../x"), "l /a /": link("/a", "/"), "l '/ ' ' '": link("/ ", " "), "l /l l": link("/l", "l"), "l /a '\t'": link("/a", "\t"), `l '/'\''' '\'`: link("/'", `\`), "l /a .": link("/a", "."), "l /a /a//": link("/a", "/a//"),
		"d " + longest: dir(longest), "f " + longest + " " + word: file(longest, word), "l /" + full + " " + word: link("/"+full, word),
		"f /a '" + strings.Repeat(`'\''`, api.MaxWord) + "'": file("/a", strings.Repeat("'", api.MaxWord)),
	} {
		checkLine(t, x, want)
		checkParse(t, want, x, api.OK)
	}
}

// P11.2: a line's words may be quoted in any way, with any blanks around them.
func TestParse(t *testing.T) {
	for _, c := range []struct {
		x     api.Row
		lines []string
	}{
		{dir("/a"), []string{"d /a", "'d' /a", `\d /a`, "d'' /a", "''d /a", "'d' '/a'", `\d \/\a`, "d '/'a", "d /'a'", "d ''/''a''", " d /a", "d /a ", "  d   /a  ", "d\t/a", "\t d \t/a\t"}},
		{dir("/a b"), []string{"d '/a b'", `d /a\ b`, "d /a' 'b", `'d'  '/a'\ 'b'`}},
		{dir("/a'"), []string{`d /a\'`, `d '/a'\'''`, `d \/a\'`}},
		{file("/a", ""), []string{"f /a ''", "f /a '' ", "'f' '/a' ''", `\f /a ''''`, "\tf\t/a\t''''''"}},
		{file("/a", "x y"), []string{"f /a 'x y'", `f /a x\ y`, "f /a x' 'y", `f /a \x\ \y`, "f /a 'x'' ''y'"}},
		{file("/a", `\`), []string{`f /a '\'`, `f /a \\`}},
		{file("/a", "'f'"), []string{`f /a \'f\'`, `f /a ''\''f'\'''`, `'f' /a \''f'\'`}},
		{file("/d", "l"), []string{"f /d l", "f /d 'l'", `\f \/\d \l`}},
		{link("/a", "../x"), []string{"l /a ../x", "'l' /a '../x'", `l /a \.\.\/\x`, " l  /a  ../x "}},
		{link("/a", " "), []string{"l /a ' '", `l /a \ `, "l /a ' ' "}},
		{link("/a", "\t"), []string{"l /a '\t'", "l /a \\\t"}},
	} {
		for _, s := range c.lines {
			checkParse(t, s, c.x, api.OK)
		}
	}
}

// P11.2: of several errors that of Split is first, then the form, then what may not be.
func TestParseErrors(t *testing.T) {
	for want, l := range map[api.Errno][]string{
		api.ErrForm: {
			// A line that Split refuses.
			"f /a 'x", "d '/a", "f /a x'", `d /a\`, `f /a \`, "'", `\`, "d /a\n", "\nd /a", "d /a\x00", "f /a 'x\ny'", "f /a \\\n", "l /a 'x\x00'", "f /a x\n", "x 'y", "d / 'x",
			// No words, or another first one.
			"", " ", "\t \t", "''", "'' /a", "' ' /a", "x /a", "x /a b", "D /a", "F /a x", "L /a x", "dd /a", "df /a", "fl /a x", "dfl /a", "dfl", "'d ' /a", "' d' /a", `d\ /a`, `\  /a`, "'d /a'", `d\ /a x`, "/a", "/a d", "a d /a", "1 /a", "2 /a x", "3 /a x", "\x01 /a", "\x02 /a x", "mkdir /a", "# d /a", "#", "< d", "\uff44 /a", "\u00e4 /a", "\xff /a x", "\xc3 /a", "d\xff /a", "d, /a", "-d /a",
			// Fewer words, or more.
			"d", "f", "l", "d /a b", "d /a ''", "d '' /a", "d /a /b", "f /a", "l /a", "f ''", "l ''", "f /a x y", "f /a x ''", "f /a '' ''", "l /a x y", "l /a x ''", "l /a b c d", "d /a b c", "d d /a", "f f /a x",
			// The form is ahead of what may not be.
			"x a", "x / y", "d a b", "d / ''", "f /", "f a", "l a", "l / x y", "l /a '' ''", "f ..", "d '' ''", "f a/ x y",
		},
		api.ErrMany: {
			word + "w", "d /" + word, "f /a " + word + "w", "l /a '" + word + "w'", "x " + word + "w", "d /a " + word + "w", "f / " + word + "w 'x", "d a b c " + word + "w",
		},
		api.ErrArg: {
			// Of directories that have no bytes it is the path alone.
			"d /", "d a", "d ''", "d /a/", "d //a", "d /a//b", "d .", "d ..", "d /.", "d /a/..", "d ./a", "d ' /a'", "d /" + full + "n", "d " + longest + "n", "d " + word,
			"f / x", "f a x", "f '' ''", "f '' x", "f /a/ x", "f /a/../b x", "f /" + full + "n x", "f " + longest + "n ''", "f " + word + " " + word,
			"l / x", "l a x", "l /a ''", "l '' x", "l '' ''", "l a ''", "l /a/ x", "l /a ''''", "l " + longest + "n x", "l x /a",
		},
	} {
		for _, s := range l {
			checkParse(t, s, api.Row{}, want)
		}
	}
}

// P11.2: Parse of what Join makes of words that may not be.
func TestParseWrong(t *testing.T) {
	for _, p := range wrongPaths {
		for _, l := range [][]string{{"d", p}, {"f", p, "x"}, {"l", p, "x"}, {"f", p, ""}, {"l", p, ""}} {
			want := api.ErrArg
			if len(p) > api.MaxWord {
				want = api.ErrMany
			}
			checkParse(t, words.Join(l), api.Row{}, want)
		}
	}
	for _, data := range wrongData {
		want := api.ErrForm
		if len(data) > api.MaxWord {
			want = api.ErrMany
		}
		for _, l := range [][]string{{"f", "/a", data}, {"l", "/a", data}, {"d", data}, {"f", data, "x"}, {data, "/a"}} {
			checkParse(t, words.Join(l), api.Row{}, want)
		}
	}
}

// P11.2: of all short lines Parse answers the row that their words tell, if it may be.
func TestParseLikeReference(t *testing.T) {
	counts := map[string]int{"d": 2, "f": 3, "l": 3}
	for _, s := range slices.Concat(textsOf("dfl/a' \\", 5), prefixed("d ", textsOf("/.a' ", 5)), prefixed("f /", textsOf("a' \\/", 6)), prefixed("l /", textsOf("a' ./", 6))) {
		l, wantErr := words.Split(s)
		var x api.Row
		switch {
		case wantErr != api.OK:
		case len(l) == 0 || len(l) != counts[l[0]]:
			wantErr = api.ErrForm
		default:
			l = append(l, "")
			x = api.Row{Path: l[1], Kind: strings.Index("dfl", l[0]) + 1, Data: l[2]}
			if !isPath(x.Path) || !mayHave(x.Kind, x.Data) {
				x, wantErr = api.Row{}, api.ErrArg
			}
		}
		checkParse(t, s, x, wantErr)
	}
}

// P11.3: rising part by part, not byte by byte.
func TestSort(t *testing.T) {
	for _, want := range [][]string{
		nil, {"/a"}, {"/a", "/b"}, {"/a", "/a/b"}, {"/a/b", "/a-"}, {"/a", "/a/b", "/a/z", "/a-", "/b"}, {"/a", "/a/b", "/a/b/c", "/a/c", "/a b", "/a.b", "/ab", "/b", "/b/a"},
		{"/a/a/a", "/a/b", "/aa", "/b/a/a/a", "/c"}, {"/a/b/c/d", "/a/b/d", "/a/c", "/b"}, {"/A", "/B", "/a", "/b"}, {"/1", "/10", "/2", "/a1", "/a10", "/a2"},
		{"/a", "/a/\x01", "/a/a", "/a/\x80", "/a/\xff", "/a\x01", "/a\x01/a", "/a ", "/a!", "/a-", "/a.", "/a0", "/aa", "/a\x7f", "/a\xff", "/z", "/\u00e4", "/\u4e2f", "/\xff"},
		{"/.../a", "/..a/b", "/..b", "/.a", "/.b"}, {"/ /a", "/ -", "/!"}, {"/a/b", "/a//c", "/a-"}, {"", "a", "a/b", "b"}, {"/", "/a"}, {"/a\x00/b", "/a\x00\x00"}, {"/a", "/a/b", "/a\x00"},
		{longest, longest + "n", longest + "nn"}, {"/" + full[1:], longest, "/" + full},
		// Two points are a part as any other one is.
		{"/a", "/a/-", "/a/..", "/a/../b", "/a/...", "/a/0", "/b/.."},
	} {
		l := make([]api.Row, len(want))
		for i, p := range want {
			l[i] = api.Row{Path: p, Kind: i, Data: p}
		}
		sorted := slices.Clone(l)
		for range 2 * len(l) {
			checkSort(t, l, sorted)
			slices.Reverse(l)
			checkSort(t, l, sorted)
			slices.Reverse(l)
			if len(l) > 0 {
				l = append(l[1:], l[0])
			}
		}
	}
}

// P11.3: rows of one path stay in order, whatever else they have; so do paths of the same parts.
func TestSortStays(t *testing.T) {
	l := []api.Row{link("/b", "z"), file("/b", "a"), dir("/b"), file("/b", ""), {Path: "/b", Kind: -1}, dir("/b")}
	checkSort(t, l, l)
	l = []api.Row{dir("/b/c"), file("/a", "2"), link("/b", "x"), file("/a", "1"), dir("/b"), file("/a", "3"), dir("/b/c")}
	checkSort(t, l, []api.Row{l[1], l[3], l[5], l[2], l[4], l[0], l[6]})
	l = []api.Row{{Path: "b"}, {Path: "//a"}, {Path: "/"}, {Path: "a"}, {Path: "/a/"}, {Path: ""}, {Path: "/./a/."}, {Path: "."}, {Path: "/a"}, {Path: "/b"}}
	checkSort(t, l, []api.Row{l[2], l[5], l[7], l[1], l[3], l[4], l[6], l[8], l[0], l[9]})
	// So many that they aren't sorted one by one.
	l = nil
	for i := range 1000 {
		l = append(l, file("/"+strconv.Itoa(i%2), strconv.Itoa(i)))
	}
	checkSort(t, l, slowSort(l))
}

// slowSort puts clean rows one by one behind those that aren't greater; of clean paths a byte below all others does for the slash.
func slowSort(l []api.Row) []api.Row {
	key := func(x api.Row) string { return strings.ReplaceAll(x.Path, "/", "\x00") }
	var sorted []api.Row
	for _, x := range l {
		i := len(sorted)
		for i > 0 && cmp.Less(key(x), key(sorted[i-1])) {
			i--
		}
		sorted = slices.Insert(sorted, i, x)
	}
	return sorted
}

// P11.3: of all short lists, and of long ones by chance, what a plain reference answers.
func TestSortLikeReference(t *testing.T) {
	few := []api.Row{file("/a", "1"), file("/a", "2"), dir("/a/b"), dir("/a-"), link("/a-", "x"), dir("/b")}
	for _, l := range listsOf(few, 5) {
		checkSort(t, l, slowSort(l))
	}
	r := rand.New(rand.NewSource(11))
	names := []string{"a", "b", "a-", "a.b", "ab", "a b", "\xff", "-", "\x01", "aa"}
	for range 300 {
		l := make([]api.Row, r.Intn(60))
		for i := range l {
			l[i].Data = strconv.Itoa(i)
			for range 1 + r.Intn(4) {
				l[i].Path += "/" + names[r.Intn(len(names))]
			}
		}
		checkSort(t, l, slowSort(l))
	}
}

// R3: what Sort answers is new memory, of rows that rise as well.
func TestSortIsNew(t *testing.T) {
	for n := range 4 {
		l := []api.Row{dir("/a"), dir("/b"), dir("/c")}[:n:3]
		a, b := rows.Sort(l), rows.Sort(l)
		for i := range a {
			a[i] = api.Row{}
		}
		a = append(a, dir("/x"))
		if want := []api.Row{dir("/a"), dir("/b"), dir("/c")}; !slices.Equal(b, want[:n]) || !slices.Equal(l[:3], want) || len(a) != n+1 {
			t.Errorf("of %d rows: %s, %s", n, told(b...), told(l[:3]...))
		}
	}
}

// P11.3: the same rows, in the same order.
func TestSame(t *testing.T) {
	a, b := dir("/a"), file("/b", "x")
	for _, c := range []struct {
		a, b []api.Row
		want bool
	}{
		{nil, nil, true}, {nil, []api.Row{}, true}, {[]api.Row{}, []api.Row{}, true}, {[]api.Row{a}, []api.Row{a}, true}, {[]api.Row{a, b}, []api.Row{a, b}, true}, {[]api.Row{a, a}, []api.Row{a, a}, true}, {[]api.Row{{}}, []api.Row{{}}, true}, {[]api.Row{{Path: "x", Kind: 9}}, []api.Row{{Path: "x", Kind: 9}}, true},
		{nil, []api.Row{a}, false}, {nil, []api.Row{{}}, false}, {[]api.Row{a}, []api.Row{a, a}, false}, {[]api.Row{a}, []api.Row{a, b}, false}, {[]api.Row{b}, []api.Row{a, b}, false}, {[]api.Row{a, b}, []api.Row{b, a}, false}, {[]api.Row{a, b, a}, []api.Row{a, b, b}, false}, {[]api.Row{a, b, a}, []api.Row{a, a, a}, false},
		// One field alone is another one.
		{[]api.Row{a}, []api.Row{dir("/b")}, false}, {[]api.Row{b}, []api.Row{file("/a", "x")}, false}, {[]api.Row{b}, []api.Row{link("/b", "x")}, false}, {[]api.Row{b}, []api.Row{file("/b", "y")}, false}, {[]api.Row{b}, []api.Row{file("/b", "")}, false}, {[]api.Row{file("/b", "")}, []api.Row{dir("/b")}, false}, {[]api.Row{a, b}, []api.Row{a, file("/b", "X")}, false},
		// Paths that lead to one place aren't one path.
		{[]api.Row{dir("/a")}, []api.Row{dir("a")}, false}, {[]api.Row{dir("/a")}, []api.Row{dir("/a/")}, false},
	} {
		if rows.Same(c.a, c.b) != c.want || rows.Same(c.b, c.a) != c.want {
			t.Errorf("Same(%s, %s) isn't %v, or is it one way round only", told(c.a...), told(c.b...), c.want)
		}
	}
	few := []api.Row{a, b, {}}
	for i, x := range listsOf(few, 3) {
		for j, y := range listsOf(few, 3) {
			if rows.Same(x, y) != (i == j) {
				t.Errorf("Same(%s, %s) isn't %v", told(x...), told(y...), i == j)
			}
		}
	}
}

// checkBack holds a row against that of its line.
func checkBack(t *testing.T, x api.Row) {
	t.Helper()
	s, e := rows.Line(x)
	if e != api.OK || strings.ContainsAny(s, "\n\x00") {
		t.Errorf("Line(%s) = %.80q, %v", told(x), s, e)
	}
	checkParse(t, s, x, api.OK)
}

// P11.4: there and back, of all paths with all bytes, and of rows by chance.
func TestThereAndBack(t *testing.T) {
	for _, p := range rightPaths {
		checkBack(t, dir(p))
		for _, data := range rightData {
			checkBack(t, file(p, data))
			if data != "" {
				checkBack(t, link(p, data))
			}
		}
	}
	r := rand.New(rand.NewSource(4))
	text := func(n int) string {
		b := make([]byte, 1+r.Intn(n))
		for i := range b {
			if b[i] = byte(1 + r.Intn(255)); b[i] == '\n' || b[i] == '/' || r.Intn(4) == 0 {
				b[i] = " '\\\t"[r.Intn(4)]
			}
		}
		return string(b)
	}
	for range 3000 {
		// A letter behind each name: it isn't of points alone.
		p := "/" + text(20) + "n/" + text(20) + "n"
		checkBack(t, dir(p))
		checkBack(t, file(p, text(200)))
		checkBack(t, link(p, text(20)))
	}
}

// P11.4: and back: what is parsed has a line with the same words.
func TestBackAndThere(t *testing.T) {
	for _, s := range slices.Concat(prefixed("d /", textsOf("a' \\/", 5)), prefixed("'f' /", textsOf("a' \\/", 5)), prefixed("\\l  /", textsOf("a' \\.", 5))) {
		x, e := rows.Parse(s)
		if e != api.OK {
			continue
		}
		line, _ := rows.Line(x)
		want, _ := words.Split(s)
		if got, e := words.Split(line); !slices.Equal(got, want) || e != api.OK || line != words.Join(want) {
			t.Errorf("%q is told as %q", s, line)
		}
		checkBack(t, x)
	}
}

// R1: long texts and many rows end soon.
func TestLong(t *testing.T) {
	const n = 1 << 20
	long, blanks := strings.Repeat("/a", n), strings.Repeat(" \t", n)
	checkRight(t, dir(long), false)
	checkRight(t, file("/a", long), false)
	checkRight(t, link(long, long), false)
	checkParse(t, blanks+"d"+blanks+"/a"+blanks, dir("/a"), api.OK)
	checkParse(t, blanks, api.Row{}, api.ErrForm)
	checkParse(t, "d "+long, api.Row{}, api.ErrMany)
	checkParse(t, strings.Repeat("d ", n), api.Row{}, api.ErrForm)
	checkParse(t, "f /a "+strings.Repeat("''", n), file("/a", ""), api.OK)
	checkSort(t, []api.Row{file(long, "b"), dir(long + "/b"), dir(long), dir("/")}, []api.Row{dir("/"), file(long, "b"), dir(long), dir(long + "/b")})
}

// R1: many deep paths that are alike but for their ends are sorted soon.
func TestSortMany(t *testing.T) {
	deep := strings.Repeat("/a", 400)
	want := make([]api.Row, 1<<13)
	for i := range want {
		want[i] = dir(deep + "/" + strconv.Itoa(100000+i))
	}
	l := slices.Clone(want)
	rand.New(rand.NewSource(1)).Shuffle(len(l), func(i, j int) { l[i], l[j] = l[j], l[i] })
	checkSort(t, l, want)
}

// textsOf answers all texts of at most n of the letters, bytes; the shorter ones first.
func textsOf(letters string, n int) []string {
	all := []string{""}
	for begin := 0; n > 0; n-- {
		end := len(all)
		for _, s := range all[begin:end] {
			for i := range len(letters) {
				all = append(all, s+letters[i:i+1])
			}
		}
		begin = end
	}
	return all
}

// prefixed answers texts with another one ahead of each.
func prefixed(s string, l []string) []string {
	all := make([]string, len(l))
	for i, x := range l {
		all[i] = s + x
	}
	return all
}

// listsOf answers all lists of at most n of the rows.
func listsOf(few []api.Row, n int) [][]api.Row {
	all := [][]api.Row{nil}
	if n == 0 {
		return all
	}
	for _, l := range listsOf(few, n-1) {
		for _, x := range few {
			all = append(all, append(slices.Clone(l), x))
		}
	}
	return all
}
