package rel_test

import (
	gopath "path"
	"path/filepath"
	"slices"
	"strings"
	"testing"

	"linhay/api"
	"linhay/rel"
)

var (
	full = strings.Repeat("n", api.MaxName)
	over = full + "n"
	// A clean path of more than MaxPath bytes.
	long = strings.Repeat("/"+full, 2*api.MaxPath/api.MaxName)
)

// checkWay holds what To and Steps answer against what is asked for, and P5.3's first half against both.
func checkWay(t *testing.T, dir, s, want string, steps int) {
	t.Helper()
	got := rel.To(dir, s)
	if got != want {
		t.Errorf("To(%.80q, %.80q) = %.80q, not %.80q", dir, s, got, want)
	}
	if n := rel.Steps(dir, s); n != steps {
		t.Errorf("Steps(%.80q, %.80q) = %d, not %d", dir, s, n, steps)
	}
	checkEnd(t, dir, got, gopath.Clean("/"+s), true)
}

// checkEnd holds what End answers against what is asked for.
func checkEnd(t *testing.T, dir, text, want string, wantOK bool) {
	t.Helper()
	if got, ok := rel.End(dir, text); got != want || ok != wantOK {
		t.Errorf("End(%.80q, %.80q) = %.80q, %v, not %.80q, %v", dir, text, got, ok, want, wantOK)
	}
}

// checkSame holds what Same answers, either way round, against what is asked for.
func checkSame(t *testing.T, dir, a, b string, want bool) {
	t.Helper()
	if rel.Same(dir, a, b) != want || rel.Same(dir, b, a) != want {
		t.Errorf("Same(%.80q, %.80q, %.80q) isn't %v, or is it one way round only", dir, a, b, want)
	}
}

// P5.1: ways between clean paths.
func TestTo(t *testing.T) {
	for _, c := range []struct {
		dir, s, want string
		steps        int
	}{
		// Down.
		{"/a", "/a/b", "b", 1}, {"/a", "/a/b/c", "b/c", 2}, {"/a/b", "/a/b/c", "c", 1}, {"/a", "/a/a", "a", 1}, {"/a/a", "/a/a/a/a", "a/a", 2},
		// Up.
		{"/a/b", "/a", "..", 1}, {"/a/b/c", "/a", "../..", 2}, {"/a/b/c", "/a/b", "..", 1}, {"/a/a", "/a", "..", 1}, {"/a/a/a", "/a", "../..", 2},
		// Up and down.
		{"/a/b", "/a/c", "../c", 2}, {"/a/b", "/a/c/d", "../c/d", 3}, {"/a", "/b", "../b", 2}, {"/a/b", "/c", "../../c", 3}, {"/a/b/c", "/a/d/e", "../../d/e", 4}, {"/usr/bin", "/stow/p/bin/x", "../../stow/p/bin/x", 6},
		// From / and to /.
		{"/", "/a", "a", 1}, {"/", "/a/b", "a/b", 2}, {"/", "/a/b/c", "a/b/c", 3}, {"/a", "/", "..", 1}, {"/a/b", "/", "../..", 2}, {"/a/b/c", "/", "../../..", 3},
		// A directory and itself.
		{"/", "/", ".", 0}, {"/a", "/a", ".", 0}, {"/a/b", "/a/b", ".", 0}, {"/a/a", "/a/a", ".", 0}, {long, long, ".", 0},
		// A name that is the beginning of another one.
		{"/ab", "/a", "../a", 2}, {"/a", "/ab", "../ab", 2}, {"/a/b", "/a/bc", "../bc", 2}, {"/a/bc", "/a/b", "../b", 2}, {"/ab/c", "/a", "../../a", 3}, {"/a", "/ab/c", "../ab/c", 3}, {"/ab/c", "/a/c", "../../a/c", 4}, {"/a/b", "/ab", "../../ab", 3}, {"/ab", "/a/b", "../a/b", 3}, {"/a b", "/a", "../a", 2}, {"/a\x00", "/a", "../a", 2},
		// Alike behind a part that isn't.
		{"/a/c/d", "/b/c/d", "../../../b/c/d", 6}, {"/a/b/c", "/a/x/c", "../../x/c", 4}, {"/b/a", "/a", "../../a", 3}, {"/a", "/b/a", "../b/a", 3}, {"/a/b", "/b/a", "../../b/a", 4}, {"/a/b", "/b", "../../b", 3}, {"/A", "/a", "../a", 2},
		// Names of points, but not of one or of two alone.
		{"/...", "/a", "../a", 2}, {"/a", "/...", "../...", 2}, {"/.../a", "/.../..b", "../..b", 2}, {"/.a", "/.", "..", 1}, {"/", "/...", "...", 1}, {"/..a", "/..a/.b", ".b", 1},
		// Names that may not be, paths that are too long, and names of other bytes.
		{"/\x00", "/\x00/b", "b", 1}, {"/a", "/\x00", "../\x00", 2}, {"/" + over, "/a", "../a", 2}, {"/a", "/" + over, "../" + over, 2}, {long, long + "/a", "a", 1}, {long + "/a", long, "..", 1}, {long + "/a", long + "/b", "../b", 2},
		{"/ ", "/ /\n", "\n", 1}, {"/a\\/b", "/a\\", "..", 1}, {"/\u00e4", "/\xc3", "../\xc3", 2}, {"/\xff", "/\xff/\xfe", "\xfe", 1}, {"/~", "/'*", "../'*", 2},
	} {
		checkWay(t, c.dir, c.s, c.want, c.steps)
	}
}

// P5.1: ways between paths that are taken clean.
func TestToUnclean(t *testing.T) {
	for _, c := range []struct {
		dir, s, want string
		steps        int
	}{
		{"", "", ".", 0}, {"", "/", ".", 0}, {"/", "", ".", 0}, {".", "..", ".", 0}, {"..", "//", ".", 0}, {"/./", "a/..", ".", 0},
		{"", "a", "a", 1}, {"a", "", "..", 1}, {"a", "a", ".", 0}, {"a", "/a", ".", 0}, {"/a", "a", ".", 0}, {"a", "b", "../b", 2}, {"a/b", "a/c", "../c", 2},
		{"/a/", "/a", ".", 0}, {"/a", "/a/", ".", 0}, {"//a//b//", "/a/c/", "../c", 2}, {"/a", "/a//b", "b", 1}, {"/a//b", "/a/b", ".", 0}, {"/a/./b", "/a/b/.", ".", 0}, {"/./a", "/a/./b", "b", 1}, {"./a", "./b", "../b", 2},
		{"/a/..", "/a", "a", 1}, {"/a/..", "/", ".", 0}, {"/a", "/a/..", "..", 1}, {"a/../b", "b/c", "c", 1}, {"/a/../b", "/a", "../a", 2}, {"/a/b/..", "/a/c", "c", 1}, {"/a/b", "/a/b/../c", "../c", 2}, {"/a/b", "/a/b/..", "..", 1}, {"/a/b/../..", "/b", "b", 1},
		{"../a", "/a", ".", 0}, {"/a", "../../a", ".", 0}, {"/../a", "/../b", "../b", 2}, {"/..", "/a", "a", 1}, {"/a", "/..", "..", 1}, {"..", "../a", "a", 1},
		{" ", "/", "..", 1}, {"/a/ ", "/a", "..", 1}, {"/a/...", "/a/..", "../..", 2}, {"/a\\..", "/a", "../a", 2}, {over + "/", "./" + over, ".", 0}, {"\x00", "\x00/a", "a", 1},
	} {
		checkWay(t, c.dir, c.s, c.want, c.steps)
	}
}

// P5.2: where ways end.
func TestEnd(t *testing.T) {
	for _, c := range []struct {
		dir, text, want string
		ok              bool
	}{
		{"/a", "b", "/a/b", true}, {"/a", "../b", "/b", true}, {"/a", "b/c", "/a/b/c", true}, {"/a/b", "../c/d", "/a/c/d", true}, {"/", "a", "/a", true}, {"/a", ".", "/a", true}, {"/", ".", "/", true}, {"/a", "a", "/a/a", true},
		// The empty text.
		{"/a", "", "/a", false}, {"/", "", "/", false}, {"", "", "/", false}, {"a/../b", "", "/b", false}, {"/a/b/", "", "/a/b", false},
		// /, and texts that begin with a slash.
		{"/a", "/", "/", false}, {"/", "/", "/", false}, {"", "/", "/", false}, {"/a", "//", "/", false}, {"/a", "/b", "/b", false}, {"/a", "//b", "/b", false}, {"/a", "/a/b", "/a/b", false}, {"/a", "/a", "/a", false}, {"/a", "/.", "/", false}, {"/a", "/..", "/", false}, {"/a/b", "/../c", "/c", false}, {"/a", "/b/../c/", "/c", false}, {"/", "/b", "/b", false},
		// A slash elsewhere is none ahead.
		{"/a", "./b", "/a/b", true}, {"/a", ".//b", "/a/b", true}, {"/a", "b/", "/a/b", true}, {"/a", "b//c", "/a/b/c", true}, {"/a", " /b", "/a/ /b", true}, {"/a", "\\/b", "/a/\\/b", true}, {"/a", "\x00/b", "/a/\x00/b", true},
		// Two points that go above /.
		{"/a", "..", "/", true}, {"/a", "../..", "/", true}, {"/", "..", "/", true}, {"/", "../../x", "/x", true}, {"/a", "../../b", "/b", true}, {"/a/b", "../../../c/d", "/c/d", true}, {"/a", "b/../../..", "/", true}, {"/a", "b/../../../c", "/c", true}, {"", "..", "/", true}, {"/a", "../../../../../a", "/a", true},
		// Texts that aren't clean, and directories that aren't.
		{"/a", "./../b/", "/b", true}, {"/a", "b/..", "/a", true}, {"/a", "b/./c", "/a/b/c", true}, {"/a", "..b", "/a/..b", true}, {"/a", "...", "/a/...", true}, {"/a", " ", "/a/ ", true}, {"/a", "\x00", "/a/\x00", true},
		{"", "a", "/a", true}, {"a", "b", "/a/b", true}, {"a/", "../b", "/b", true}, {"//a//", "b", "/a/b", true}, {"/a/..", "b", "/b", true}, {"..", "a", "/a", true}, {"../a", "../b", "/b", true}, {"/a/.", ".", "/a", true},
		// Names that may not be, and paths that are too long.
		{"/" + over, "a", "/" + over + "/a", true}, {"/a", over, "/a/" + over, true}, {long, "..", gopath.Dir(long), true}, {long, full, long + "/" + full, true}, {"/a", long, long, false}, {"/a", long[1:], "/a" + long, true},
	} {
		checkEnd(t, c.dir, c.text, c.want, c.ok)
	}
}

// P5.2: ways that end at one place, and such as don't.
func TestSame(t *testing.T) {
	for _, c := range []struct {
		dir, a, b string
		want      bool
	}{
		// Both relative.
		{"/a", "b", "b", true}, {"/a", "../b", "./../b/", true}, {"/a", "b", "./b", true}, {"/a", "b", "b/", true}, {"/a", "b", "c/../b", true}, {"/a", "b", "../a/b", true}, {"/a", "b", "b//.", true}, {"/a", ".", "../a", true}, {"/a", ".", "b/..", true}, {"/a", "..", "../..", true}, {"/", "a", "../a", true}, {"/", ".", "..", true}, {"/a/b", "../../c", "../../../../c", true},
		{"/a", "b", "c", false}, {"/a", "b", "../b", false}, {"/a", "b", "b/c", false}, {"/a", "b", "ab", false}, {"/a", "b", "B", false}, {"/a", ".", "..", false}, {"/a/b", "..", "../..", false}, {"/a", "../a/b", "../b", false}, {"/a", "...", "..", false}, {"/a", "b", "b ", false}, {"/a", "b", "b\x00", false},
		// Neither relative.
		{"/a", "/b", "/b", true}, {"/a", "/b", "//b/", true}, {"/a", "/b", "/c/../b", true}, {"/a", "/", "//", true}, {"/a", "/", "/..", true}, {"/a", "/b", "/./b", true}, {"/a/b", "/a/b", "/a/b/c/..", true},
		{"/a", "/b", "/c", false}, {"/a", "/b", "/a/b", false}, {"/a", "/", "/a", false}, {"/b", "/b", "/bc", false},
		// The empty text, which isn't relative either.
		{"/a", "", "", true}, {"", "", "", true}, {"/a", "", "/a", true}, {"/", "", "/", true}, {"/a", "", "//a/.", true}, {"a/../b", "", "/b", true},
		{"/a", "", "/", false}, {"/a", "", "/a/b", false},
		// One of each kind, be the place one or not.
		{"/a", "../b", "/b", false}, {"/a", "b", "/a/b", false}, {"/", "a", "/a", false}, {"/", ".", "/", false}, {"/", "..", "/", false}, {"/a", ".", "/a", false}, {"/a", ".", "", false}, {"/", ".", "", false}, {"/a", "..", "", false}, {"/a", "../a", "", false}, {"/a", "b", "/c", false}, {"/a", "..", "/", false},
		// Directories that aren't clean, names that may not be, and paths that are too long.
		{"", "a", "../a", true}, {"a/", "b", "../a/b", true}, {"/a/..", "a", "./a", true}, {"..", "..", ".", true}, {"/a", over, "./" + over, true}, {"/" + over, ".", "../" + over, true}, {"/" + over, ".", "../" + full, false}, {long, "..", ".././", true}, {long, "..", ".", false}, {"/a", "\x00", "./\x00", true}, {"/\x00", "..", "../..", true}, {"/a", long, "/." + long, true}, {"/a", long[1:], long, false},
	} {
		checkSame(t, c.dir, c.a, c.b, c.want)
	}
}

// P5.1: of all pairs of short texts To and Steps are what Go's library answers of the clean paths.
func TestToLikeReference(t *testing.T) {
	texts := slices.Concat(textsOf("/.ab", 4), []string{
		"/a/b/a", "/a/b/b", "/a/ab/b", "/ab/a/b", "/a/b/a/b", "/b/a/b", "/a/b/a/a/b", "/a/../b/a", "/a/a/a/", "/b/b/a/../b", "/.../a/b", "/aa/b/a", "/a/a/../b/b",
	})
	for _, dir := range texts {
		for _, s := range texts {
			want, err := filepath.Rel(gopath.Clean("/"+dir), gopath.Clean("/"+s))
			if err != nil {
				t.Fatal(err)
			}
			steps := strings.Count(want, "/") + 1
			if want == "." {
				steps = 0
			}
			checkWay(t, dir, s, want, steps)
		}
	}
}

// P5.2: of all pairs of short texts End, and of some directories Same, are what a plain reference answers.
func TestEndLikeReference(t *testing.T) {
	texts := textsOf("/.ab", 4)
	ends := map[[2]string]string{}
	dirs := []string{"", "/", "/a", "/a/b", "b/../a/", "/ab"}
	for _, dir := range slices.Concat(texts, dirs) {
		for _, text := range texts {
			end := gopath.Clean("/" + dir + "/" + text)
			if strings.HasPrefix(text, "/") {
				end = gopath.Clean(text)
			}
			ends[[2]string{dir, text}] = end
			checkEnd(t, dir, text, end, isRelative(text))
		}
	}
	for _, dir := range dirs {
		for _, a := range texts {
			for _, b := range texts {
				same := ends[[2]string{dir, a}] == ends[[2]string{dir, b}] && isRelative(a) == isRelative(b)
				if rel.Same(dir, a, b) != same {
					t.Fatalf("Same(%q, %q, %q) isn't %v", dir, a, b, same)
				}
			}
		}
	}
}

// isRelative tells whether a text is one of a relative way.
func isRelative(text string) bool { return text != "" && text[0] != '/' }

// P5.3: the way leads to the path, and none with fewer parts does; of its length there is no other one.
func TestNoShorterWay(t *testing.T) {
	paths := cleanPaths([]string{"a", "b"}, 3)
	parts := []string{"..", "a", "b"}
	for _, dir := range paths {
		for _, s := range paths {
			way, steps := rel.To(dir, s), rel.Steps(dir, s)
			checkEnd(t, dir, way, s, true)
			if steps == 0 {
				continue
			}
			for _, other := range waysOf(parts, steps) {
				if end, _ := rel.End(dir, other); end == s && other != way {
					t.Errorf("from %q to %q lead both %q and %q", dir, s, way, other)
				}
			}
		}
	}
}

// P5.3: no relative way of fewer bytes leads to the path.
func TestNoShorterText(t *testing.T) {
	paths := cleanPaths([]string{"a", "b"}, 2)
	texts := textsOf("/.ab", 7)
	for _, dir := range paths {
		for _, s := range paths {
			way := rel.To(dir, s)
			for _, text := range texts {
				if len(text) >= len(way) {
					break
				}
				if end, ok := rel.End(dir, text); ok && end == s {
					t.Errorf("from %q to %q lead both %q and %q", dir, s, way, text)
				}
			}
		}
	}
}

// R1: long paths end soon.
func TestLong(t *testing.T) {
	const n = 1 << 18
	deep, up := strings.Repeat("/a", n), strings.Repeat("../", n)[:3*n-1]
	for _, c := range []struct {
		dir, s, want string
		steps        int
	}{
		{deep, deep, ".", 0}, {deep, "/", up, n}, {"/", deep, deep[1:], n}, {deep, deep + "/b", "b", 1}, {deep + "/b", deep, "..", 1}, {deep + "/b", deep + "/c", "../c", 2},
		{deep, "/b", up + "/b", n + 1}, {"/b", deep, ".." + deep, n + 1}, {deep, "/b" + deep, up + "/b" + deep, 2*n + 1},
		{deep + "/" + up, "/b", "b", 1}, {"/" + up, "/" + up + deep, deep[1:], n}, {strings.Repeat("/", n), strings.Repeat("./", n), ".", 0},
	} {
		checkWay(t, c.dir, c.s, c.want, c.steps)
	}
	checkSame(t, deep, up, "../"+up, true)
	checkSame(t, "/", up, ".", true)
	checkSame(t, "/", up, "/"+up, false)
}

// textsOf answers all texts of at most n of the letters, bytes; the shorter ones first.
func textsOf(letters string, n int) []string {
	all := []string{""}
	for begin := 0; n > 0; n-- {
		end := len(all)
		for _, s := range all[begin:end] {
			for i := range len(letters) {
				all = append(all, s+letters[i:i+1])
			}
		}
		begin = end
	}
	return all
}

// cleanPaths answers all clean paths of at most n of the names.
func cleanPaths(names []string, n int) []string {
	all := []string{"/"}
	for _, way := range waysOf(names, n) {
		all = append(all, "/"+way)
	}
	return all
}

// waysOf answers all ways of 1 to n of the parts.
func waysOf(parts []string, n int) []string {
	if n == 0 {
		return nil
	}
	all := slices.Clone(parts)
	for _, way := range waysOf(parts, n-1) {
		for _, part := range parts {
			all = append(all, part+"/"+way)
		}
	}
	return all
}
