package path_test

import (
	gopath "path"
	"slices"
	"strings"
	"testing"

	"linhay/api"
	"linhay/path"
)

var (
	full = strings.Repeat("n", api.MaxName)
	over = full + "n"
	// Clean paths of right names, none of them / alone.
	right = []string{
		"/a", "/a/b", "/a/b/c", "/ab", "/a/a", "/a/a/a", "/bin/x.y-z", "/usr/share/man/man1/vi.1.gz",
		// Names of points, but not of one or of two alone.
		"/...", "/..a", "/a..", "/.a", "/a.", "/....", "/..a/b", "/a../b", "/a/...", "/.../...", "/.a/..b/c../d.", "/. ", "/..\t",
		// Every byte but 0 and / may be in a name.
		"/ ", "/ a/ b", "/\n", "/\\", "/a\\/b", "/'", "/*", "/~", "/\x01", "/\x7f", "/\x80", "/\xff/\xfe", "/\u00e4/\u4e2f", "/\uff0f", "/\u2024", "/\u2025",
		"/" + full, "/a/" + full + "/b",
	}
	// Clean paths that have a name that may not be, or are too long.
	wrongClean = []string{
		"/\x00", "/a/\x00b", "/a\x00/b", "/" + over, "/a/" + over, "/" + over + "/a", "/" + strings.Repeat(".", api.MaxName+1),
		longPath(api.MaxPath + 1), longPath(2 * api.MaxPath),
	}
	// Texts that aren't clean, and how they are taken clean.
	unclean = map[string]string{
		// Without a slash ahead.
		"": "/", "a": "/a", "a/b": "/a/b", "...": "/...", "..a": "/..a", "a..": "/a..", " ": "/ ", "~": "/~", "\x00": "/\x00", over: "/" + over,
		// Several slashes, beside one another, ahead and behind.
		"//": "/", "///": "/", "////": "/", "a/": "/a", "/a/": "/a", "/a//": "/a", "//a": "/a", "///a": "/a", "//a//": "/a", "/a//b": "/a/b", "/a///b": "/a/b", "//a//b//": "/a/b", "a//b": "/a/b",
		// Parts of one point.
		".": "/", "/.": "/", "./": "/", "/./": "/", "./.": "/", "/././.": "/", ".//.": "/", "./a": "/a", "a/.": "/a", "/./a": "/a", "/a/.": "/a", "/a/./": "/a", "/a/./b": "/a/b", "/./a//b/.": "/a/b", "././a/././b/././": "/a/b",
		// Parts of two points, with something ahead of them.
		"/a/..": "/", "a/..": "/", "/a/../": "/", "/a/../b": "/b", "/a/b/..": "/a", "/a/b/../": "/a", "/a/b/../c": "/a/c", "/a/b/../..": "/", "/a/../b/..": "/", "/a/../b/../c": "/c", "/a/b/../../c": "/c", "/a/b/c/../../d": "/a/d", "a//./b/../c": "/a/c", "/a/./..": "/", "/a//..": "/", "/a//.//..//b": "/b", "/ab/cd/../e": "/ab/e", "/.../..": "/", "/..a/..": "/", "/a/.../..": "/a", "/a/..b/..": "/a", "/a/b/.././c": "/a/c",
		// Parts of two points, with nothing ahead of them.
		"..": "/", "/..": "/", "../": "/", "/../": "/", "../..": "/", "/../..": "/", "../../..": "/", "../a": "/a", "/../a": "/a", "/../../a": "/a", "./../a": "/a", "//../a": "/a", "/a/../..": "/", "/a/../../b": "/b", "/a/b/../../../c": "/c", "/a/../../../b/c": "/b/c", "../../a/../../b": "/b", "../...": "/...", "../a/..": "/", "/a/../../b/..": "/",
		// Three points are a name, and take nothing away.
		"/a/.../": "/a/...", "/a//...": "/a/...", ".../a": "/.../a", "/a/.../../b": "/a/b", "../.../..": "/",
	}
)

// longPath answers a clean path of right names, and of n bytes.
func longPath(n int) string {
	s := strings.Repeat("/"+full, n/(len(full)+1)+1)[:n]
	if strings.HasSuffix(s, "/") {
		s = s[:n-2] + "/n"
	}
	return s
}

// P4.1: the parts, in order: not what is empty, nor what is one point.
func TestParts(t *testing.T) {
	for s, want := range map[string][]string{
		"": nil, "/": nil, "//": nil, "////": nil, ".": nil, "/.": nil, "./": nil, "/./": nil, "././.": nil, ".//.//": nil,
		"a": {"a"}, "/a": {"a"}, "a/": {"a"}, "/a/": {"a"}, "//a//": {"a"}, "./a/.": {"a"},
		"a/b": {"a", "b"}, "/a/b": {"a", "b"}, "/a//b": {"a", "b"}, "/a/./b": {"a", "b"}, "///a///b///": {"a", "b"},
		"/b/a/b": {"b", "a", "b"}, "/a/a/a": {"a", "a", "a"}, "/c/b/a": {"c", "b", "a"},
		// Two points are a part, whatever is ahead of them; so is what has more points, or other bytes too.
		"..": {".."}, "/..": {".."}, "../..": {"..", ".."}, "/a/..": {"a", ".."}, "/a/../b": {"a", "..", "b"}, "../a": {"..", "a"}, "./../.": {".."}, "/a/../..": {"a", "..", ".."},
		"...": {"..."}, "/.../....": {"...", "...."}, ".a/a./..a/a..": {".a", "a.", "..a", "a.."},
		" / ": {" ", " "}, ". ": {". "}, " .": {" ."}, "a b/c\nd": {"a b", "c\nd"}, "a\\/b": {"a\\", "b"}, "\x00/\xff": {"\x00", "\xff"}, "\u00e4/\uff0f": {"\u00e4", "\uff0f"},
		over + "/" + full: {over, full},
	} {
		if got := path.Parts(s); !slices.Equal(got, want) {
			t.Errorf("Parts(%.80q) = %.80q, not %.80q", s, got, want)
		}
	}
}

// R3: what Parts answers is new memory.
func TestPartsAreNew(t *testing.T) {
	a, b := path.Parts("/a/b"), path.Parts("/a/b")
	a[0], a[1] = "x", "y"
	if c := path.Parts("/a/b"); !slices.Equal(b, []string{"a", "b"}) || !slices.Equal(c, b) {
		t.Errorf("%q, %q", b, c)
	}
}

// checkClean holds what Clean answers against the path that is asked for.
func checkClean(t *testing.T, s, want string) {
	t.Helper()
	if got := path.Clean(s); got != want {
		t.Errorf("Clean(%.80q) = %.80q, not %.80q", s, got, want)
	}
}

// P4.1: Clean of what isn't clean, and of what is.
func TestClean(t *testing.T) {
	for s, want := range unclean {
		checkClean(t, s, want)
	}
	for _, s := range slices.Concat([]string{"/"}, right, wrongClean) {
		checkClean(t, s, s)
		checkClean(t, s[1:], s)
		checkClean(t, s+"/", s)
		checkClean(t, "/."+s+"/x/..", s)
	}
}

// P4.1: Is of what is clean and right, and of what isn't clean, or isn't right.
func TestIs(t *testing.T) {
	for _, s := range slices.Concat([]string{"/"}, right) {
		if !path.Is(s) {
			t.Errorf("Is(%.80q) is false", s)
		}
	}
	for _, s := range wrongClean {
		if path.Is(s) {
			t.Errorf("Is(%.80q) is true", s)
		}
	}
	for s := range unclean {
		if path.Is(s) {
			t.Errorf("Is(%.80q) is true", s)
		}
	}
}

// P4.1: Is at MaxPath bytes and around them, and at MaxName bytes.
func TestIsLong(t *testing.T) {
	short := strings.Repeat("/nnn", api.MaxPath/4)
	for s, want := range map[string]bool{
		longPath(api.MaxPath - 1): true, longPath(api.MaxPath): true, longPath(api.MaxPath + 1): false,
		short: true, short + "n": false, short + "/a": false, short + "/": false, short[1:]: false,
		short[4:] + "/a": true, short[4:] + "/ab": true, short[4:] + "/abc": true, short[4:] + "/abcd": false, short[4:] + "/...": true, short[4:] + "/..": false, short[4:] + "/ab/": false, short[4:] + "//ab": false, short[4:] + "/n/.": false,
		strings.Repeat("/n", api.MaxPath/2): true, strings.Repeat("/n", api.MaxPath/2+1): false,
		"/" + full: true, "/" + over: false, full: false, "/" + full + "/" + full: true, "/" + full + "/" + over: false, "/" + over + "/" + full: false, "/" + strings.Repeat("n", api.MaxPath): false,
		// Bytes are counted, not letters.
		"/" + strings.Repeat("\u00e4", api.MaxName/2): true, "/" + strings.Repeat("\u00e4", api.MaxName/2) + "n": false,
		strings.Repeat("/\u00e4n", api.MaxPath/4): true, strings.Repeat("/\u00e4n", api.MaxPath/4) + "/": false, strings.Repeat("/\u00e4n", api.MaxPath/4+1): false,
		strings.Repeat("/", api.MaxPath): false,
	} {
		if got := path.Is(s); got != want {
			t.Errorf("Is(%.80q, %d bytes) = %v", s, len(s), got)
		}
	}
}

// P4.1: of each byte, in a name at each place, just 0 and / may not be.
func TestIsEachByte(t *testing.T) {
	for c := range 256 {
		b := string([]byte{byte(c)})
		for _, s := range []string{"/x" + b, "/" + b + "x", "/x/" + b + "x", "/x" + b + "/y"} {
			if got := path.Is(s); got != (c != 0 && c != '/') {
				t.Errorf("Is(%q) = %v", s, got)
			}
		}
	}
}

// P4.1: of all short texts Parts, Clean and Is are what a plain reference answers.
func TestLikeReference(t *testing.T) {
	for _, s := range slices.Concat(textsOf("/.a", 8), textsOf("/.a\x00b", 5)) {
		checkClean(t, s, gopath.Clean("/"+s))
		parts := slices.DeleteFunc(strings.Split(s, "/"), func(p string) bool { return p == "" || p == "." })
		if got := path.Parts(s); !slices.Equal(got, parts) {
			t.Errorf("Parts(%q) = %q, not %q", s, got, parts)
		}
		if got := path.Is(s); got != (isCleanLike(s) && !strings.Contains(s, "\x00")) {
			t.Errorf("Is(%q) = %v", s, got)
		}
	}
}

// isCleanLike tells whether a path is clean, as the chapter says it.
func isCleanLike(s string) bool {
	if s == "/" {
		return true
	}
	pieces := strings.Split(s, "/")
	bad := func(p string) bool { return p == "" || p == "." || p == ".." }
	return len(pieces) > 1 && pieces[0] == "" && !slices.ContainsFunc(pieces[1:], bad)
}

// P4.2: Join of what begins with a slash, and of what doesn't.
func TestJoin(t *testing.T) {
	for _, c := range []struct{ dir, s, want string }{
		{"/a", "b", "/a/b"}, {"/a/b", "../c", "/a/c"}, {"/", "a", "/a"}, {"/", "a/b", "/a/b"}, {"/a/b", "c/d", "/a/b/c/d"}, {"/a", "a", "/a/a"},
		// A slash ahead.
		{"/a", "/c", "/c"}, {"/a", "/", "/"}, {"/a", "//", "/"}, {"/a", "//c", "/c"}, {"/a/b", "/../c", "/c"}, {"/a", "/c/../d/", "/d"}, {"", "/c", "/c"}, {"/", "/c", "/c"}, {"/a", "/.", "/"}, {"/a", "/..", "/"},
		// A slash elsewhere is none ahead.
		{"/a", "./c", "/a/c"}, {"/a", "c/", "/a/c"}, {"/a", "c//d", "/a/c/d"}, {"/a", ".//c", "/a/c"}, {"/a", " /c", "/a/ /c"}, {"/a", "\\/c", "/a/\\/c"},
		// Empty texts, and points.
		{"", "", "/"}, {"/", "", "/"}, {"", "/", "/"}, {"/a", "", "/a"}, {"", "a", "/a"}, {"/a", ".", "/a"}, {"/a", "./", "/a"}, {"/a", "..", "/"}, {"/a", "../..", "/"}, {"/a", "../../b", "/b"}, {"/", "..", "/"}, {"/", "../a", "/a"}, {"/a", "...", "/a/..."}, {"/a", "..b", "/a/..b"}, {"/a/b", "../../..", "/"},
		// A directory that isn't clean.
		{"a", "b", "/a/b"}, {"a/", "b", "/a/b"}, {"//a//", "b", "/a/b"}, {"/a/..", "b", "/b"}, {"..", "b", "/b"}, {".", "b", "/b"}, {"/a/.", "..", "/"}, {"../a", "../../b", "/b"}, {"a/b/..", "../c", "/c"},
		{"/" + over, "\x00", "/" + over + "/\x00"}, {longPath(api.MaxPath), full, longPath(api.MaxPath) + "/" + full},
	} {
		if got := path.Join(c.dir, c.s); got != c.want {
			t.Errorf("Join(%.80q, %.80q) = %.80q, not %.80q", c.dir, c.s, got, c.want)
		}
	}
}

// checkEnds holds what Dir and Base answer against the texts that are asked for.
func checkEnds(t *testing.T, s, dir, base string) {
	t.Helper()
	if got := path.Dir(s); got != dir {
		t.Errorf("Dir(%.80q) = %.80q, not %.80q", s, got, dir)
	}
	if got := path.Base(s); got != base {
		t.Errorf("Base(%.80q) = %.80q, not %.80q", s, got, base)
	}
}

// P4.2: Dir and Base, of clean paths and of such as are taken clean.
func TestDirAndBase(t *testing.T) {
	for s, want := range map[string][2]string{
		"/": {"/", ""}, "/a": {"/", "a"}, "/ab": {"/", "ab"}, "/a/b": {"/a", "b"}, "/a/b/c": {"/a/b", "c"}, "/a/a": {"/a", "a"}, "/ab/cd": {"/ab", "cd"},
		"/...": {"/", "..."}, "/a/..b": {"/a", "..b"}, "/a/.b": {"/a", ".b"}, "/a/b.": {"/a", "b."}, "/.a/b": {"/.a", "b"},
		"": {"/", ""}, ".": {"/", ""}, "..": {"/", ""}, "//": {"/", ""}, "/.": {"/", ""}, "/..": {"/", ""}, "a/..": {"/", ""}, "/a/b/../..": {"/", ""},
		"a": {"/", "a"}, "a/": {"/", "a"}, "//a//": {"/", "a"}, "/a/.": {"/", "a"}, "../a": {"/", "a"}, "/a/b/..": {"/", "a"}, "a/../b": {"/", "b"},
		"a/b": {"/a", "b"}, "/a//b/": {"/a", "b"}, "/a/b/.": {"/a", "b"}, "/a/./b": {"/a", "b"}, "/a/b/c/..": {"/a", "b"}, "/a/c/../b": {"/a", "b"}, "/../a/b": {"/a", "b"}, "/a/b/c/../..": {"/", "a"},
		"/" + over: {"/", over}, "/\x00/" + full: {"/\x00", full}, "/a b/\n": {"/a b", "\n"}, longPath(api.MaxPath) + "/x": {longPath(api.MaxPath), "x"},
	} {
		checkEnds(t, s, want[0], want[1])
	}
}

// P4.2: of all short texts Join, Dir and Base are what a plain reference answers.
func TestJoinLikeReference(t *testing.T) {
	for _, s := range textsOf("/.a", 8) {
		clean := gopath.Clean("/" + s)
		base := gopath.Base(clean)
		if clean == "/" {
			base = ""
		}
		checkEnds(t, s, gopath.Dir(clean), base)
	}
	texts := textsOf("/.ab", 4)
	for _, dir := range texts {
		for _, s := range texts {
			want := gopath.Clean("/" + dir + "/" + s)
			if strings.HasPrefix(s, "/") {
				want = gopath.Clean(s)
			}
			if got := path.Join(dir, s); got != want {
				t.Fatalf("Join(%q, %q) = %q, not %q", dir, s, got, want)
			}
		}
	}
}

// checkUnder holds what Under and Within answer against what is asked for.
func checkUnder(t *testing.T, s, dir, want string, wantOK bool) {
	t.Helper()
	if rest, ok := path.Under(s, dir); rest != want || ok != wantOK {
		t.Errorf("Under(%.80q, %.80q) = %.80q, %v, not %.80q, %v", s, dir, rest, ok, want, wantOK)
	}
	if ok := path.Within(s, dir); ok != wantOK {
		t.Errorf("Within(%.80q, %.80q) = %v", s, dir, ok)
	}
}

// P4.3: Within and Under of clean paths.
func TestUnder(t *testing.T) {
	long := longPath(2 * api.MaxPath)
	for _, c := range []struct {
		s, dir, rest string
		ok           bool
	}{
		{"/a/b", "/a", "b", true}, {"/a/b/c", "/a", "b/c", true}, {"/a/b/c", "/a/b", "c", true}, {"/a/b/a/b", "/a/b", "a/b", true}, {"/a/a", "/a", "a", true},
		// The path itself.
		{"/a", "/a", "", true}, {"/a/b", "/a/b", "", true}, {"/", "/", "", true}, {"/...", "/...", "", true}, {long, long, "", true},
		// From / on.
		{"/a", "/", "a", true}, {"/a/b", "/", "a/b", true}, {"/...", "/", "...", true}, {"/..a/b", "/", "..a/b", true}, {"/" + over, "/", over, true},
		// A name that another name begins with.
		{"/ab", "/a", "", false}, {"/ab/c", "/a", "", false}, {"/a/bc", "/a/b", "", false}, {"/a/bc/d", "/a/b", "", false}, {"/a.", "/a", "", false}, {"/...", "/..a", "", false}, {"/a\x00", "/a", "", false}, {"/a b", "/a", "", false}, {"/a\\/b", "/a", "", false},
		// The other way round, and beside.
		{"/", "/a", "", false}, {"/a", "/a/b", "", false}, {"/a", "/ab", "", false}, {"/a/b", "/a/b/c", "", false}, {"/a", "/b", "", false}, {"/a/b", "/b", "", false}, {"/b/a", "/a", "", false}, {"/a/c", "/a/b", "", false}, {"/c/b", "/a/b", "", false}, {"/x/a/b", "/a", "", false}, {"/A/b", "/a", "", false},
		// Names that may not be, and more than MaxPath bytes, are clean nevertheless.
		{"/" + over + "/a", "/" + over, "a", true}, {"/\x00/a", "/\x00", "a", true}, {"/a/\x00", "/a", "\x00", true}, {long + "/x", long, "x", true}, {long + "x", long, "", false},
		{"/ /\n", "/ ", "\n", true}, {"/\xff/\xfe", "/\xff", "\xfe", true}, {"/\u00e4/b", "/\u00e4", "b", true}, {"/\u00e4", "/\xc3", "", false},
	} {
		checkUnder(t, c.s, c.dir, c.rest, c.ok)
	}
}

// P4.3: of what isn't clean nothing is Within anything, be it the path, the directory, or both.
func TestUnderUnclean(t *testing.T) {
	for s, clean := range unclean {
		for _, dir := range []string{"/", "/a", "", "a", clean, s, "/a/", path.Dir(clean)} {
			checkUnder(t, s, dir, "", false)
		}
		for _, p := range []string{"/", "/a", "/a/b", clean, clean + "/x", s + "/x", "/" + s, path.Join(clean, "x/y")} {
			checkUnder(t, p, s, "", false)
		}
	}
}

// P4.3, P4.4: of all pairs of short texts Within and Under are what is told by their parts, and Join leads back.
func TestUnderLikeReference(t *testing.T) {
	texts := textsOf("/.ab", 4)
	for _, s := range []string{"/a/b/a", "/a/ab/b", "/ab/a/b", "/a/b/a/b", "/b/a/b", "/.../a/b", "/a/../b/", "/a/a/a/", "/aa/a/../a"} {
		texts = append(texts, s)
	}
	for _, s := range texts {
		for _, dir := range texts {
			ps, pd := path.Parts(s), path.Parts(dir)
			want := isCleanLike(s) && isCleanLike(dir) && len(ps) >= len(pd) && slices.Equal(ps[:len(pd)], pd)
			rest := ""
			if want {
				rest = strings.Join(ps[len(pd):], "/")
			}
			checkUnder(t, s, dir, rest, want)
			if want && path.Join(dir, rest) != s {
				t.Errorf("Join(%q, %q) = %q, not %q", dir, rest, path.Join(dir, rest), s)
			}
		}
	}
}

// P4.4: what is Clean is clean, and stays so.
func TestCleanIsClean(t *testing.T) {
	for _, s := range slices.Concat(textsOf("/.a", 8), textsOf("/.ab", 6), right, wrongClean) {
		clean := path.Clean(s)
		if !isCleanLike(clean) || path.Clean(clean) != clean || !path.Is(clean) && !slices.Contains(wrongClean, s) {
			t.Errorf("Clean(%.80q) = %.80q, and of that %.80q", s, clean, path.Clean(clean))
		}
		for _, p := range []string{path.Dir(s), path.Join(s, "a/.."), path.Join("..", s)} {
			if !isCleanLike(p) {
				t.Errorf("of %.80q comes %.80q", s, p)
			}
		}
	}
}

// P4.4: Join of a directory and what is Under it is the path; Join of Dir and Base is it, too.
func TestJoinOfUnder(t *testing.T) {
	for _, s := range slices.Concat([]string{"/"}, right, wrongClean) {
		if got := path.Join(path.Dir(s), path.Base(s)); got != s {
			t.Errorf("Join of Dir and Base of %.80q is %.80q", s, got)
		}
		for dir, last := s, false; !last; dir = path.Dir(dir) {
			last = dir == "/"
			rest, ok := path.Under(s, dir)
			if got := path.Join(dir, rest); !ok || got != s {
				t.Errorf("Join of %.80q and what is Under it is %.80q, not %.80q", dir, got, s)
			}
		}
	}
}

// R1: long texts end soon.
func TestLong(t *testing.T) {
	const n = 1 << 19
	for s, want := range map[string]string{
		strings.Repeat("a/", n) + strings.Repeat("../", n):        "/",
		strings.Repeat("a/", n) + "b/" + strings.Repeat("../", n): "/a",
		strings.Repeat("a/b/../", n) + "c":                        strings.Repeat("/a", n) + "/c",
		strings.Repeat("../", n) + "a":                            "/a",
		strings.Repeat("/", n) + "a" + strings.Repeat("/.", n):    "/a",
		strings.Repeat("n", n) + "/..":                            "/",
		strings.Repeat("a/../", n):                                "/",
	} {
		if path.Clean(s) != want || path.Is(s) {
			t.Errorf("Clean(%.20q, %d bytes) is wrong, or Is is true", s, len(s))
		}
		checkUnder(t, s, "/", "", false)
		if want != "/" {
			checkUnder(t, want, "/", want[1:], true)
			checkUnder(t, want+"/x", want, "x", true)
			checkEnds(t, s+"/x", want, "x")
		}
	}
	if l := path.Parts(strings.Repeat("a/../", n)); len(l) != 2*n || l[2*n-1] != ".." {
		t.Errorf("%d parts", len(l))
	}
}

// textsOf answers all texts of at most n of the letters, bytes.
func textsOf(letters string, n int) []string {
	all := []string{""}
	for begin := 0; n > 0; n-- {
		end := len(all)
		for _, s := range all[begin:end] {
			for i := range len(letters) {
				all = append(all, s+letters[i:i+1])
			}
		}
		begin = end
	}
	return all
}
