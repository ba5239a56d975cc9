package task_test

import (
	"fmt"
	"maps"
	"math"
	"math/rand"
	"regexp"
	"slices"
	"strconv"
	"strings"
	"testing"
	"time"

	"linhay/api"
	"linhay/task"
)

var (
	full = strings.Repeat("n", api.MaxName)
	// A clean path of right names, and of MaxPath bytes.
	longest = strings.Repeat("/"+full[1:], api.MaxPath/api.MaxName)
	file    = strings.Repeat("f", api.MaxFile)
	verbs   = map[int]string{api.TaskMkdir: "mkdir", api.TaskRmdir: "rmdir", api.TaskLink: "link", api.TaskUnlink: "unlink", api.TaskMove: "move", api.TaskWrite: "write"}
	kinds   = []int{api.TaskMkdir, api.TaskRmdir, api.TaskLink, api.TaskUnlink, api.TaskMove, api.TaskWrite}
	// Kinds of tasks that there aren't.
	noKinds = []int{0, -1, -2, 7, 8, 13, 64, 'm', 256 + api.TaskMkdir, 1<<32 + api.TaskLink, -api.TaskLink, -api.TaskWrite, math.MaxInt, math.MinInt, math.MinInt + api.TaskMkdir}
	// Paths that a task may have.
	rightPaths = []string{
		"/a", "/a/b", "/a/b/c", "/t/a", "/...", "/.a", "/..a/b..", "/ ", "/a b", "/ a /b ", "/\t", "/a\nb", "/\n", "/%", "/%25", "/%41", "/a'b", "/\\", "/a\\/b", "/#", "/~", "/!", "/-", "/mkdir",
		"/\x01", "/\x1f", "/\x7f", "/\x80", "/\xff\xfe", "/\u00e4", "/\ufeff", "/\u2028", "/" + full, longest[1+len(full[1:]):], longest,
	}
	// Paths that aren't clean, / alone, or have names or lengths that may not be.
	wrongPaths = []string{
		"", "/", "a", "a/b", "//", "///", "/a/", "//a", "/a//b", ".", "..", "/.", "/..", "/./a", "/../a", "/a/.", "/a/..", "/a/./b", "/a/../b", "./a", "../a", " ", " /a", "\\/a", "~", "%2Fa", "%", "\n/a",
		"/\x00", "/a\x00", "/a/\x00b", "\x00", "/" + full + "n", "/a/" + full + "n/b", longest + "n", "/a" + longest, longest + longest, file,
	}
	// Texts that a link or a file may have, but for those that are empty.
	texts = []string{
		"", "x", "x y", " ", "  ", "\t", "\n", "\x00", "a\x00b\n", "/a/b", "../s/p/a", "/", "..", ".", "%", "%20", "%25", "100%", "''", "\\", "\r\n", "\x01\x7f", "\x80\xff\xc3", "\u00e4\u4e2f", "mkdir /a",
		file[1:], file, strings.Repeat("%", api.MaxFile), strings.Repeat("\x00", api.MaxFile), strings.Repeat("/n", api.MaxPath/2+1),
	}
	// Texts that no task may have.
	longTexts = []string{file + "f", file + "\x00", "%" + file, file + file, "/" + file}
)

// told answers a task as a short text.
func told(x api.Task) string { return fmt.Sprintf("{%d %.80q %.80q}", x.Kind, x.Path, x.Text) }

// isPlace tells whether a task may have a path, as the chapter says it, with path's and name's.
func isPlace(s string) bool {
	parts := strings.Split(s, "/")
	bad := func(p string) bool {
		return p == "" || p == "." || p == ".." || len(p) > api.MaxName || strings.Contains(p, "\x00")
	}
	return len(s) <= api.MaxPath && len(parts) > 1 && parts[0] == "" && !slices.ContainsFunc(parts[1:], bad)
}

// isRight tells whether a task may be, as the chapter says it.
func isRight(x api.Task) bool {
	if !isPlace(x.Path) {
		return false
	}
	switch verbs[x.Kind] {
	case "mkdir", "rmdir", "unlink":
		return x.Text == ""
	case "link":
		return x.Text != "" && len(x.Text) <= api.MaxFile
	case "move":
		return isPlace(x.Text)
	case "write":
		return len(x.Text) <= api.MaxFile
	}
	return false
}

// shieldOf tells a text byte by byte, as the chapter says it.
func shieldOf(s string) string {
	var out strings.Builder
	for _, c := range []byte(s) {
		if c < 33 || c > 126 || c == '%' {
			fmt.Fprintf(&out, "%%%02X", c)
		} else {
			out.WriteByte(c)
		}
	}
	return out.String()
}

const shield = `(?:[!-$&-~]|%[01][0-9A-F]|%2[05]|%7F|%[89A-F][0-9A-F])*`

var (
	isShield = regexp.MustCompile(`\A` + shield + `\z`)
	isLine   = regexp.MustCompile(`\A(?:(mkdir|rmdir|unlink) (` + shield + `)|(link|move|write) (` + shield + `) (` + shield + `))\z`)
	shielded = regexp.MustCompile(`%..`)
)

// bareOf answers the text of a Shield.
func bareOf(s string) string {
	return shielded.ReplaceAllStringFunc(s, func(d string) string {
		n, err := strconv.ParseUint(d[1:], 16, 8)
		if err != nil {
			panic(err)
		}
		return string([]byte{byte(n)})
	})
}

// slowBare answers the text of a Shield, and whether s is one.
func slowBare(s string) (string, bool) {
	if !isShield.MatchString(s) {
		return "", false
	}
	return bareOf(s), true
}

// parsed answers what a line tells, as the chapter says it.
func parsed(s string) (api.Task, api.Errno) {
	m := isLine.FindStringSubmatch(s)
	if m == nil {
		return api.Task{}, api.ErrForm
	}
	x := api.Task{Path: bareOf(m[2] + m[4]), Text: bareOf(m[5])}
	for kind, verb := range verbs {
		if verb == m[1]+m[3] {
			x.Kind = kind
		}
	}
	if !isRight(x) {
		return api.Task{}, api.ErrArg
	}
	return x, api.OK
}

// checkRight holds what Right answers against what is asked for, and whether Line and Lines take the task.
func checkRight(t *testing.T, x api.Task, want bool) {
	t.Helper()
	if got := task.Right(x); got != want {
		t.Errorf("Right(%s) = %v", told(x), got)
	}
	s, e := task.Line(x)
	if want && (s == "" || e != api.OK) || !want && (s != "" || e != api.ErrArg) {
		t.Errorf("Line(%s) = %.80q, %v", told(x), s, e)
	}
	l, e := task.Lines([]api.Task{x})
	if want && (len(l) != 1 || l[0] != s || e != api.OK) || !want && (len(l) != 0 || e != api.ErrArg) {
		t.Errorf("Lines(%s) = %.80q, %v", told(x), l, e)
	}
}

// checkLine holds what Line answers against the line that is asked for, and what Parse makes of it against the task.
func checkLine(t *testing.T, x api.Task, want string) {
	t.Helper()
	if got, e := task.Line(x); got != want || e != api.OK {
		t.Errorf("Line(%s) = %.80q, %v, not %.80q", told(x), got, e, want)
	}
	checkParse(t, want, x, api.OK)
}

// checkParse holds what Parse answers against what is asked for.
func checkParse(t *testing.T, s string, want api.Task, wantErr api.Errno) {
	t.Helper()
	if got, e := task.Parse(s); got != want || e != wantErr {
		t.Errorf("Parse(%.80q, %d bytes) = %s, %v, not %s, %v", s, len(s), told(got), e, told(want), wantErr)
	}
}

// checkShield holds what Shield answers against the word that is asked for, and what Bare makes of that against the text.
func checkShield(t *testing.T, s, want string) {
	t.Helper()
	if got := task.Shield(s); got != want {
		t.Errorf("Shield(%.80q) = %.80q, not %.80q", s, got, want)
	}
	checkBare(t, want, s, true)
}

// checkBare holds what Bare answers against what is asked for.
func checkBare(t *testing.T, s, want string, wantOK bool) {
	t.Helper()
	if got, ok := task.Bare(s); got != want || ok != wantOK {
		t.Errorf("Bare(%.80q) = %.80q, %v, not %.80q, %v", s, got, ok, want, wantOK)
	}
}

// P19.1: tasks that may be, and tasks with one thing that may not, kind by kind.
func TestRight(t *testing.T) {
	for _, p := range rightPaths {
		for _, kind := range []int{api.TaskMkdir, api.TaskRmdir, api.TaskUnlink} {
			checkRight(t, api.Task{Kind: kind, Path: p}, true)
			for _, text := range []string{"x", " ", "/a", "/", p, "\x00", "\n", file, file + "f"} {
				checkRight(t, api.Task{Kind: kind, Path: p, Text: text}, false)
			}
		}
		for _, text := range texts {
			checkRight(t, api.Task{Kind: api.TaskLink, Path: p, Text: text}, text != "")
			checkRight(t, api.Task{Kind: api.TaskWrite, Path: p, Text: text}, true)
		}
		for _, to := range rightPaths {
			checkRight(t, api.Task{Kind: api.TaskMove, Path: p, Text: to}, true)
		}
		for _, to := range wrongPaths {
			checkRight(t, api.Task{Kind: api.TaskMove, Path: p, Text: to}, false)
		}
		for _, kind := range kinds {
			for _, text := range longTexts {
				checkRight(t, api.Task{Kind: kind, Path: p, Text: text}, false)
			}
		}
	}
	for _, kind := range kinds {
		for _, p := range wrongPaths {
			for _, text := range []string{"", "x", "/a", p} {
				checkRight(t, api.Task{Kind: kind, Path: p, Text: text}, false)
			}
		}
	}
}

// P19.1: no other kind may be.
func TestRightOtherKinds(t *testing.T) {
	for _, kind := range noKinds {
		for _, p := range []string{"/a", "/a/b", "/", "", "a"} {
			for _, text := range []string{"", "x", "/b", "/"} {
				checkRight(t, api.Task{Kind: kind, Path: p, Text: text}, false)
			}
		}
	}
	for kind := -300; kind <= 300; kind++ {
		checkRight(t, api.Task{Kind: kind, Path: "/a"}, kind == 1 || kind == 2 || kind == 4 || kind == 6)
		checkRight(t, api.Task{Kind: kind, Path: "/a", Text: "b"}, kind == 3 || kind == 6)
		checkRight(t, api.Task{Kind: kind, Path: "/a", Text: "/b"}, kind == 3 || kind == 5 || kind == 6)
	}
	checkRight(t, api.Task{}, false)
}

// P19.1: of all short paths, and of each byte in one, as a Path, and as where something is moved to.
func TestRightPaths(t *testing.T) {
	check := func(p string) {
		want := isPlace(p)
		for _, kind := range []int{api.TaskMkdir, api.TaskRmdir, api.TaskUnlink} {
			checkRight(t, api.Task{Kind: kind, Path: p}, want)
		}
		checkRight(t, api.Task{Kind: api.TaskLink, Path: p, Text: "x"}, want)
		checkRight(t, api.Task{Kind: api.TaskWrite, Path: p}, want)
		checkRight(t, api.Task{Kind: api.TaskMove, Path: p, Text: "/x"}, want)
		checkRight(t, api.Task{Kind: api.TaskMove, Path: "/x", Text: p}, want)
	}
	for _, p := range textsOf("/.a\n\x00", 6) {
		check(p)
	}
	for c := range 256 {
		b := string([]byte{byte(c)})
		for _, p := range []string{"/" + b + "x", "/x/x" + b, "/x" + b + "/x", b + "x"} {
			check(p)
		}
		for _, s := range []string{b, "x" + b, b + "x"} {
			checkRight(t, api.Task{Kind: api.TaskLink, Path: "/x", Text: s}, true)
			checkRight(t, api.Task{Kind: api.TaskWrite, Path: "/x", Text: s}, true)
		}
	}
}

// P19.2: bytes from 33 to 126 but % as they are, others as two digits.
func TestShield(t *testing.T) {
	for s, want := range map[string]string{
		"": "", "a": "a", "abc": "abc", "/t/a": "/t/a", "../s/p/a": "../s/p/a", "x y": "x%20y", " ": "%20", "%": "%25", "%%": "%25%25", "%20": "%2520", "100%": "100%25", "%41": "%2541",
		"\n": "%0A", "\t": "%09", "\r": "%0D", "\x00": "%00", "\x0f": "%0F", "\x10": "%10", "\x1f": "%1F", "\x7f": "%7F", "\x80": "%80", "\x9a": "%9A", "\xa9": "%A9", "\xff": "%FF", "\xab\xcd\xef": "%AB%CD%EF",
		"!": "!", "~": "~", "\"'`\\": "\"'`\\", "a\n\xff": "a%0A%FF", "#$&()*+,-./": "#$&()*+,-./", "0123456789:;<=>?@": "0123456789:;<=>?@", "[\\]^_`{|}~": "[\\]^_`{|}~",
		"\u00e4": "%C3%A4", "\u4e2f": "%E4%B8%AF", "\u00a0": "%C2%A0", "\U0001f600": "%F0%9F%98%80", "\xc3": "%C3", "\xc3a": "%C3a", "a b\tc\x00d": "a%20b%09c%00d",
	} {
		checkShield(t, s, want)
	}
}

// P19.2: of all bytes, alone and in pairs.
func TestShieldEachByte(t *testing.T) {
	for a := range 256 {
		s := string([]byte{byte(a)})
		checkShield(t, s, shieldOf(s))
		checkShield(t, "x"+s+"y", "x"+shieldOf(s)+"y")
		for b := range 256 {
			s := string([]byte{byte(a), byte(b)})
			checkShield(t, s, shieldOf(s))
		}
	}
}

// P19.2: words that are no Shield, each for one thing.
func TestBareNone(t *testing.T) {
	for _, s := range []string{
		// A byte that may not stand as it is.
		" ", "a b", " a", "a ", "\n", "a\n", "\x00", "a\x00", "\t", "\x1f", "\x7f", "\x80", "\xff", "\u00e4", "a\u00e4", "%20 ", " %20", "\ufeffa",
		// Too few digits.
		"%", "a%", "%2", "%0", "a%2", "%A", "%20%", "%20%2", "%%", "%%%", "%%20", "%%25", "%2%20", "%2%", "%25%2",
		// No digits.
		"%g0", "%0g", "%G0", "%0G", "%zz", "%-1", "%+1", "% 1", "%1 ", "%0x", "%x0", "%/0", "%0/", "%:0", "%0:", "%@0", "%0@", "%\xb90", "%\xef\xbc\x91", "%2\x00", "%\x000",
		// Small letters.
		"%0a", "%0f", "%ff", "%fF", "%Ff", "%a0", "%c3%a4", "%C3%a4", "%c3%A4", "%1f", "%7f",
		// Bytes that stand as they are.
		"%21", "%24", "%26", "%2F", "%30", "%41", "%4A", "%5F", "%61", "%7E", "%2E", "%41b", "a%41", "%20%41", "%41%20",
		// What is wrong stands behind, or ahead of, what is right.
		"a%20b%0ac", "%0aa", "a%0a", "%20%20%2", "%2 %20", strings.Repeat("a", 100) + "%", strings.Repeat("%20", 100) + " ",
	} {
		checkBare(t, s, "", false)
	}
}

// P19.2: of all two bytes behind a % just those digits that tell a byte which doesn't stand as it is.
func TestBareEachDigits(t *testing.T) {
	for a := range 256 {
		for b := range 256 {
			digits := "%" + string([]byte{byte(a), byte(b)})
			for _, s := range []string{digits, "x" + digits + "20", digits + digits} {
				want, ok := slowBare(s)
				checkBare(t, s, want, ok)
			}
		}
	}
}

// P19.2: of all short texts Shield and Bare are what a plain reference answers.
func TestShieldLikeReference(t *testing.T) {
	for _, s := range slices.Concat(textsOf("%205Fa !", 6), textsOf("%7EF~\x7f\x80", 6)) {
		if got, want := task.Shield(s), shieldOf(s); got != want {
			t.Fatalf("Shield(%q) = %q, not %q", s, got, want)
		}
		want, ok := slowBare(s)
		if ok && shieldOf(want) != s {
			t.Fatalf("%q isn't the Shield of %q", s, want)
		}
		if got, is := task.Bare(s); got != want || is != ok {
			t.Fatalf("Bare(%q) = %q, %v, not %q, %v", s, got, is, want, ok)
		}
	}
}

// P19.3: the line of each kind, and the task of it.
func TestLine(t *testing.T) {
	for want, x := range map[string]api.Task{
		"mkdir /a":                      {Kind: api.TaskMkdir, Path: "/a"},
		"rmdir /a/b":                    {Kind: api.TaskRmdir, Path: "/a/b"},
		"unlink /a":                     {Kind: api.TaskUnlink, Path: "/a"},
		"link /t/a ../s/p/a":            {Kind: api.TaskLink, Path: "/t/a", Text: "../s/p/a"},
		"move /a /b":                    {Kind: api.TaskMove, Path: "/a", Text: "/b"},
		"write /a x":                    {Kind: api.TaskWrite, Path: "/a", Text: "x"},
		"write /a ":                     {Kind: api.TaskWrite, Path: "/a"},
		"mkdir /a%20b":                  {Kind: api.TaskMkdir, Path: "/a b"},
		"mkdir /%25":                    {Kind: api.TaskMkdir, Path: "/%"},
		"mkdir /%0A":                    {Kind: api.TaskMkdir, Path: "/\n"},
		"mkdir /mkdir":                  {Kind: api.TaskMkdir, Path: "/mkdir"},
		"rmdir /%C3%A4":                 {Kind: api.TaskRmdir, Path: "/\u00e4"},
		"unlink /%2520":                 {Kind: api.TaskUnlink, Path: "/%20"},
		"unlink /%20/%20":               {Kind: api.TaskUnlink, Path: "/ / "},
		"link /a%20b c%20d":             {Kind: api.TaskLink, Path: "/a b", Text: "c d"},
		"link /a %20":                   {Kind: api.TaskLink, Path: "/a", Text: " "},
		"link /a %00":                   {Kind: api.TaskLink, Path: "/a", Text: "\x00"},
		"link /a /":                     {Kind: api.TaskLink, Path: "/a", Text: "/"},
		"link /a ..":                    {Kind: api.TaskLink, Path: "/a", Text: ".."},
		"link /a a//b/./":               {Kind: api.TaskLink, Path: "/a", Text: "a//b/./"},
		"link /a /a":                    {Kind: api.TaskLink, Path: "/a", Text: "/a"},
		"move /a /a":                    {Kind: api.TaskMove, Path: "/a", Text: "/a"},
		"move /a /a/b":                  {Kind: api.TaskMove, Path: "/a", Text: "/a/b"},
		"move /a%09 /%FF/b":             {Kind: api.TaskMove, Path: "/a\t", Text: "/\xff/b"},
		"write /a %20":                  {Kind: api.TaskWrite, Path: "/a", Text: " "},
		"write /a a%0Ab%0A":             {Kind: api.TaskWrite, Path: "/a", Text: "a\nb\n"},
		"write /a mkdir%20/b":           {Kind: api.TaskWrite, Path: "/a", Text: "mkdir /b"},
		"write /a %2520":                {Kind: api.TaskWrite, Path: "/a", Text: "%20"},
		"write /%20 ":                   {Kind: api.TaskWrite, Path: "/ "},
		"mkdir " + longest:              {Kind: api.TaskMkdir, Path: longest},
		"move " + longest + " /" + full: {Kind: api.TaskMove, Path: longest, Text: "/" + full},
		"move /" + full + " " + longest: {Kind: api.TaskMove, Path: "/" + full, Text: longest},
		"link /a " + file:               {Kind: api.TaskLink, Path: "/a", Text: file},
		"write /a " + file:              {Kind: api.TaskWrite, Path: "/a", Text: file},
		"write /a " + strings.Repeat("%00", api.MaxFile):                                         {Kind: api.TaskWrite, Path: "/a", Text: strings.Repeat("\x00", api.MaxFile)},
		"link /" + strings.Repeat("%20", api.MaxName) + " " + strings.Repeat("%25", api.MaxFile): {Kind: api.TaskLink, Path: "/" + strings.Repeat(" ", api.MaxName), Text: strings.Repeat("%", api.MaxFile)},
	} {
		checkLine(t, x, want)
	}
}

// P19.3: of right tasks the verb, a blank, and the Shields.
func TestLineLikeReference(t *testing.T) {
	for _, p := range rightPaths {
		for _, kind := range kinds {
			for _, text := range slices.Concat(texts, rightPaths) {
				x := api.Task{Kind: kind, Path: p, Text: text}
				if !isRight(x) {
					continue
				}
				want := verbs[kind] + " " + shieldOf(p)
				if kind == api.TaskLink || kind == api.TaskMove || kind == api.TaskWrite {
					want += " " + shieldOf(text)
				}
				checkLine(t, x, want)
			}
		}
	}
}

// P19.3: lines of another form, and lines of tasks that aren't Right; the form is ahead.
func TestParseErrors(t *testing.T) {
	for want, l := range map[api.Errno][]string{
		api.ErrForm: {
			// No word of those, or no blank behind it.
			"", " ", "  ", "\n", "/a", " /a", "mkdir", "rmdir", "link", "unlink", "move", "write", "mkdir/a", "x /a", "Mkdir /a", "MKDIR /a", "mkdi /a", "mkdirs /a", "mkdir, /a", "kdir /a", " mkdir /a", "mkdirmkdir /a", "lin /a b", "links /a b", "un link /a", "rm /a", "mv /a /b", "ln /a b", "1 /a", "3 /a b", "0 /a", "mkdir%20/a", "%6Dkdir /a", "'mkdir' /a", "\\mkdir /a", "mkdir\t/a", "mkdir\n/a", "\tmkdir /a", "\ufeffmkdir /a", "mkdir\u00a0/a", "mkdir\x00 /a", "\xff /a", "mkdir=/a",
			// More blanks, or words.
			"mkdir  /a", "mkdir /a ", "mkdir /a  ", "mkdir /a b", "mkdir /a /b", "rmdir /a ", "rmdir /a b", "unlink /a ", "unlink /a x", "mkdir  ", "rmdir  ", "unlink  ", "mkdir /a %20", "link  /a b", "link /a  b", "link /a b ", "link /a b c", "link   ", "move  /a /b", "move /a  /b", "move /a /b ", "move /a /b /c", "write  /a x", "write /a  x", "write /a x ", "write /a  ", "write /a x y", "write   ",
			// Fewer words.
			"link ", "link /a", "move ", "move /a", "write ", "write /a", "link /a%20b", "write /a%20",
			// What is no Shield.
			"mkdir /a%", "mkdir /a%2", "mkdir /%41", "mkdir /%0a", "mkdir /a\n", "mkdir /\t", "mkdir /\u00e4", "mkdir /a\x00", "mkdir /%2F", "rmdir /%", "unlink /%g0", "link /% b", "link /a %", "link /a b\n", "link /%0a b", "link /a %41", "link /a %ff", "move /a /%", "move /% /a", "move /a /\xff", "write /a %", "write /a %0", "write /a %0a", "write /a %41", "write /a x\n", "write /a \x00", "write /%7E ", "write /a\n ", "write /a \t", "write /a x\r",
			// Both at once: the form is ahead of what may not be.
			"x a", "mkdir a b", "mkdir / ", "mkdir  /", "mkdir a%", "mkdir /%", "link / %", "link a %0a", "link % ", "link %  ", "move a %", "move % b", "move / %", "write a %", "write % x", "unlink a ", "unlink %41", "link /", "write a", "move a",
		},
		api.ErrArg: {
			"mkdir ", "mkdir /", "mkdir a", "mkdir /a/", "mkdir //a", "mkdir .", "mkdir ..", "mkdir /.", "mkdir /a/..", "mkdir %20", "mkdir %20/a", "mkdir /%00", "mkdir /a//b", "mkdir /" + full + "n", "mkdir " + longest + "n", "mkdir " + file, "mkdir %25", "mkdir ~",
			"rmdir ", "rmdir /", "rmdir a", "rmdir /a/.", "unlink ", "unlink /", "unlink a", "unlink /a/../b",
			"link /a ", "link / x", "link a x", "link  x", "link  ", "link / ", "link /a/ x", "link /a " + file + "f", "link /a " + strings.Repeat("%20", api.MaxFile+1), "link " + longest + "n x",
			"move /a ", "move /a b", "move /a /", "move / /a", "move a /b", "move  /a", "move  ", "move / /", "move /a /b/", "move /a /b/..", "move /a //b", "move /a/ /b", "move /a %20/b", "move /a /%00", "move /%00 /a", "move /a " + longest + "n", "move /a /" + full + "n", "move a b", "move /a ..",
			"write / x", "write / ", "write a x", "write a ", "write  x", "write  ", "write /a/ x", "write /a " + file + "f", "write /a " + file + "%25", "write /" + full + "n x", "write /a/./b x",
		},
	} {
		for _, s := range l {
			checkParse(t, s, api.Task{}, want)
		}
	}
}

// P19.3: of all short lines, of those that begin with verbs too, what a plain reference answers.
func TestParseLikeReference(t *testing.T) {
	check := func(s string) {
		want, e := parsed(s)
		checkParse(t, s, want, e)
	}
	for _, verb := range append(slices.Sorted(maps.Values(verbs)), "", "mkdi", "mkdirs", "Link", "m") {
		for _, s := range textsOf("/a %2", 5) {
			check(verb + s)
			check(verb + " " + s)
			check(verb + " /" + s)
			check(verb + " /a " + s)
		}
		for _, s := range textsOf("%25AF", 5) {
			check(verb + " /" + s)
			check(verb + " /" + s + " /" + s)
			check(verb + " /a " + s)
		}
	}
}

// P19.3: right lines of which a byte is another one, is gone, or stands there twice.
func TestParseChanged(t *testing.T) {
	for _, line := range []string{"mkdir /a%20b", "rmdir /a/%25", "unlink /%FFa", "link /t/a ../s%0A", "link /%20 %80", "move /a%7F /b/c", "write /a x%00", "write /a "} {
		want, e := parsed(line)
		if e != api.OK {
			t.Fatal(line, e)
		}
		checkLine(t, want, line)
		for i := range len(line) + 1 {
			s := line[:i] + line[min(i+1, len(line)):]
			want, e := parsed(s)
			checkParse(t, s, want, e)
			want, e = parsed(line[:i])
			checkParse(t, line[:i], want, e)
			want, e = parsed(line[i:])
			checkParse(t, line[i:], want, e)
			for c := range 256 {
				b := string([]byte{byte(c)})
				for _, s := range []string{line[:i] + b + line[i:], line[:i] + b + line[min(i+1, len(line)):]} {
					want, e := parsed(s)
					checkParse(t, s, want, e)
				}
			}
		}
	}
}

// P19.4: the lines of all tasks, in their order, or none.
func TestLines(t *testing.T) {
	l := []api.Task{
		{Kind: api.TaskUnlink, Path: "/t/bin"}, {Kind: api.TaskMkdir, Path: "/t/bin"}, {Kind: api.TaskLink, Path: "/t/bin/x", Text: "../../s/p/bin/x"}, {Kind: api.TaskMkdir, Path: "/t/bin"},
		{Kind: api.TaskWrite, Path: "/a b"}, {Kind: api.TaskMove, Path: "/z", Text: "/a"}, {Kind: api.TaskRmdir, Path: "/%"},
	}
	want := []string{"unlink /t/bin", "mkdir /t/bin", "link /t/bin/x ../../s/p/bin/x", "mkdir /t/bin", "write /a%20b ", "move /z /a", "rmdir /%25"}
	was := slices.Clone(l)
	for n := range len(l) + 1 {
		if got, e := task.Lines(l[:n]); !slices.Equal(got, want[:n]) || e != api.OK {
			t.Errorf("Lines of %d tasks: %q, %v", n, got, e)
		}
		for _, bad := range []api.Task{{}, {Kind: api.TaskMkdir, Path: "/"}, {Kind: api.TaskLink, Path: "/a"}, {Kind: 7, Path: "/a"}, {Kind: api.TaskMkdir, Path: "/a", Text: "x"}, {Kind: api.TaskWrite, Path: "/a", Text: file + "f"}} {
			if got, e := task.Lines(slices.Insert(slices.Clone(l), n, bad)); len(got) != 0 || e != api.ErrArg {
				t.Errorf("Lines with %s at %d: %q, %v", told(bad), n, got, e)
			}
		}
	}
	for _, none := range [][]api.Task{nil, {}} {
		if got, e := task.Lines(none); len(got) != 0 || e != api.OK {
			t.Errorf("Lines of none: %q, %v", got, e)
		}
	}
	if !slices.Equal(l, was) {
		t.Error("Lines has changed its list")
	}
}

// P19.4: more tasks than a plan may have are told nevertheless.
func TestLinesMany(t *testing.T) {
	l := slices.Repeat([]api.Task{{Kind: api.TaskMkdir, Path: "/a"}}, 2*api.MaxTasks+1)
	got, e := task.Lines(l)
	if len(got) != len(l) || e != api.OK || slices.ContainsFunc(got, func(s string) bool { return s != "mkdir /a" }) {
		t.Errorf("%d lines, %v", len(got), e)
	}
	if n := task.Count(l, api.TaskMkdir); n != len(l) {
		t.Errorf("Count = %d", n)
	}
}

// R3: what Lines answers is new memory.
func TestLinesAreNew(t *testing.T) {
	l := []api.Task{{Kind: api.TaskMkdir, Path: "/a"}, {Kind: api.TaskRmdir, Path: "/b"}}
	a, _ := task.Lines(l)
	b, _ := task.Lines(l)
	a[0], a[1] = "x", "y"
	if want := []string{"mkdir /a", "rmdir /b"}; !slices.Equal(b, want) || l[0].Path != "/a" {
		t.Errorf("%q", b)
	}
}

// P19.4: how many are of a kind, be they Right or not, and be there such a kind or not.
func TestCount(t *testing.T) {
	l := []api.Task{{Kind: 1, Path: "/a"}, {Kind: 2}, {Kind: 1}, {Kind: 3, Path: "a", Text: "x"}, {Kind: 6}, {Kind: 1, Path: "/b"}, {Kind: -1}, {}, {Kind: math.MinInt}, {Kind: 6}, {Kind: 5}, {Kind: 9}, {}}
	was := slices.Clone(l)
	for kind, want := range map[int]int{1: 3, 2: 1, 3: 1, 4: 0, 5: 1, 6: 2, 0: 2, -1: 1, 7: 0, 9: 1, math.MinInt: 1, math.MaxInt: 0, -6: 0, 257: 0} {
		if got := task.Count(l, kind); got != want {
			t.Errorf("Count of %d = %d, not %d", kind, got, want)
		}
		if got := task.Count(nil, kind) + task.Count([]api.Task{}, kind); got != 0 {
			t.Errorf("Count of %d among none = %d", kind, got)
		}
	}
	for n := range len(l) + 1 {
		sum := 0
		for _, kind := range []int{1, 2, 3, 4, 5, 6, 0, -1, 9, math.MinInt} {
			sum += task.Count(l[:n], kind)
		}
		if sum != n {
			t.Errorf("of %d tasks %d are counted", n, sum)
		}
	}
	if !slices.Equal(l, was) {
		t.Error("Count has changed its list")
	}
}

// P19.5: there and back, of texts and of tasks by chance; lines have no blanks but those between words.
func TestThereAndBack(t *testing.T) {
	r := rand.New(rand.NewSource(19))
	text := func(n int) string {
		b := make([]byte, r.Intn(n))
		for i := range b {
			if b[i] = byte(r.Intn(256)); r.Intn(3) == 0 {
				b[i] = "% \n\x00a2/"[r.Intn(7)]
			}
		}
		return string(b)
	}
	place := func() string {
		// A letter behind each name: it isn't of points alone.
		s := ""
		for range 1 + r.Intn(4) {
			s += "/" + strings.NewReplacer("/", "s", "\x00", "0").Replace(text(20)) + "n"
		}
		return s
	}
	for range 5000 {
		s := text(60)
		checkShield(t, s, shieldOf(s))
		want, ok := slowBare(s)
		checkBare(t, s, want, ok)
		for _, x := range []api.Task{
			{Kind: api.TaskMkdir, Path: place()}, {Kind: api.TaskRmdir, Path: place()}, {Kind: api.TaskUnlink, Path: place()},
			{Kind: api.TaskLink, Path: place(), Text: "x" + text(60)}, {Kind: api.TaskMove, Path: place(), Text: place()}, {Kind: api.TaskWrite, Path: place(), Text: text(60)},
		} {
			line, e := task.Line(x)
			checkLine(t, x, line)
			if blanks := strings.Count(line, " "); e != api.OK || blanks < 1 || blanks > 2 || strings.ContainsAny(line, "\n\x00\t") {
				t.Errorf("Line(%s) = %q, %v", told(x), line, e)
			}
		}
	}
}

// R1: long texts, and many tasks, end soon.
func TestLong(t *testing.T) {
	const n = 1 << 20
	begun := time.Now()
	for _, c := range []string{"a", "%", " ", "\xff", "/a", "/"} {
		s := strings.Repeat(c, n)
		checkShield(t, s, shieldOf(s))
		checkRight(t, api.Task{Kind: api.TaskMkdir, Path: s}, false)
		checkRight(t, api.Task{Kind: api.TaskMove, Path: "/a", Text: s}, false)
		checkRight(t, api.Task{Kind: api.TaskLink, Path: "/a", Text: s}, false)
		checkParse(t, "write /a "+shieldOf(s), api.Task{}, api.ErrArg)
		checkParse(t, "write "+shieldOf(s)+" ", api.Task{}, api.ErrArg)
		checkParse(t, "write "+shieldOf(s)+" %", api.Task{}, api.ErrForm)
		checkParse(t, s, api.Task{}, api.ErrForm)
		checkParse(t, s+" /a", api.Task{}, api.ErrForm)
	}
	checkBare(t, strings.Repeat("a", n)+" ", "", false)
	checkBare(t, strings.Repeat("%20", n)+"%2", "", false)
	checkParse(t, "mkdir"+strings.Repeat(" ", n), api.Task{}, api.ErrForm)
	checkParse(t, "link /a"+strings.Repeat(" b", n), api.Task{}, api.ErrForm)
	if d := time.Since(begun); d > 20*time.Second {
		t.Errorf("it took %v", d)
	}
}

// textsOf answers all texts of at most n of the letters, bytes.
func textsOf(letters string, n int) []string {
	all := []string{""}
	for begin := 0; n > 0; n-- {
		end := len(all)
		for _, s := range all[begin:end] {
			for i := range len(letters) {
				all = append(all, s+letters[i:i+1])
			}
		}
		begin = end
	}
	return all
}
