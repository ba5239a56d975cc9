package seek_test

import (
	gopath "path"
	"regexp"
	"slices"
	"strconv"
	"strings"
	"testing"

	"linhay/api"
	"linhay/path"
	"linhay/seek"
	"linhay/tree"
)

var (
	full = strings.Repeat("n", api.MaxName)
	over = full + "n"
	// Paths of all kinds, for calls that answer the same of each.
	anyPaths = []string{"", "/", ".", "..", "a", "/a", "/a/b", "a/b/", "nix", "a\x00", "/" + over, strings.Repeat("/", api.MaxPath), strings.Repeat("/", api.MaxPath+1)}
)

// spot is what a world keeps of a node.
type spot struct {
	n, kind int
	data    string
}

// world is a tree, and its nodes by their paths.
type world struct {
	x     *tree.Tree
	nodes map[string]spot
}

// newWorld answers a world with Root alone.
func newWorld() world {
	return world{tree.New(), map[string]spot{"/": {n: tree.Root, kind: api.Dir}}}
}

// put makes a node at a clean path, and answers its number.
func (w world) put(t *testing.T, p string, kind int, data string) int {
	t.Helper()
	n, e := w.x.Put(w.nodes[gopath.Dir(p)].n, gopath.Base(p), kind, data)
	if e != api.OK {
		t.Fatalf("Put of %.80q: %v", p, e)
	}
	w.nodes[p] = spot{n, kind, data}
	return n
}

// dir, file and link make nodes of these kinds.
func (w world) dir(t *testing.T, p string) int { t.Helper(); return w.put(t, p, api.Dir, "") }

func (w world) file(t *testing.T, p string) int { t.Helper(); return w.put(t, p, api.File, "x") }

func (w world) link(t *testing.T, p, text string) int {
	t.Helper()
	return w.put(t, p, api.Link, text)
}

// nothing is what a path may begin with that is no part.
var nothing = regexp.MustCompile(`^/*(\./+)*(\.$)?`)

// find is a slow Find: it puts a link's text ahead of the text that is left.
func (w world) find(p string, last bool) (int, api.Errno) {
	switch {
	case p == "":
		return 0, api.ErrNone
	case len(p) > api.MaxPath:
		return 0, api.ErrName
	}
	at, hops := "/", 0
	for rest := nothing.ReplaceAllString(p, ""); rest != ""; rest = nothing.ReplaceAllString(rest, "") {
		var part string
		part, rest, _ = strings.Cut(rest, "/")
		if w.nodes[at].kind != api.Dir {
			return 0, api.ErrNotDir
		}
		if part == ".." {
			at = gopath.Dir(at)
			continue
		}
		if len(part) > api.MaxName || strings.Contains(part, "\x00") {
			return 0, api.ErrName
		}
		s, ok := w.nodes[gopath.Join(at, part)]
		if !ok {
			return 0, api.ErrNone
		}
		if s.kind != api.Link || nothing.ReplaceAllString(rest, "") == "" && !last {
			at = gopath.Join(at, part)
			continue
		}
		if hops++; hops == 41 {
			return 0, api.ErrLoop
		}
		if s.data[0] == '/' {
			at = "/"
		}
		rest = s.data + "/" + rest
	}
	return w.nodes[at].n, api.OK
}

// spot is a slow Spot.
func (w world) spot(p string) (int, string, api.Errno) {
	if p == "" {
		return 0, "", api.ErrNone
	}
	if len(p) > api.MaxPath {
		return 0, "", api.ErrName
	}
	parts := slices.DeleteFunc(strings.Split(p, "/"), func(s string) bool { return s == "" || s == "." })
	if len(parts) == 0 || parts[len(parts)-1] == ".." {
		return 0, "", api.ErrExist
	}
	last := parts[len(parts)-1]
	n, e := w.find("/"+strings.Join(parts[:len(parts)-1], "/"), true)
	if e != api.OK {
		return 0, "", e
	}
	if w.x.Kind(n) != api.Dir {
		return 0, "", api.ErrNotDir
	}
	if len(last) > api.MaxName || strings.Contains(last, "\x00") {
		return 0, "", api.ErrName
	}
	return n, last, api.OK
}

// straight is a slow Straight: a path under which a world keeps a node is clean, but where nothing is but links.
func (w world) straight(p string) bool { return w.nodes[p].kind == api.Dir && len(p) <= api.MaxPath }

// checkFind holds what Find answers against the node or the error that is asked for.
func checkFind(t *testing.T, x *tree.Tree, p string, last bool, n int, want api.Errno) {
	t.Helper()
	if got, e := seek.Find(x, p, last); got != n || e != want {
		t.Errorf("Find(%.200q, %v) = %d, %v, not %d, %v", p, last, got, e, n, want)
	}
}

// checkBoth holds what Find answers, with the link at the end and without it, against one and the same.
func checkBoth(t *testing.T, x *tree.Tree, p string, n int, want api.Errno) {
	t.Helper()
	checkFind(t, x, p, false, n, want)
	checkFind(t, x, p, true, n, want)
}

// checkSpot holds what Spot answers against the directory and the name, or the error, that are asked for.
func checkSpot(t *testing.T, x *tree.Tree, p string, dir int, s string, want api.Errno) {
	t.Helper()
	if n, got, e := seek.Spot(x, p); n != dir || got != s || e != want {
		t.Errorf("Spot(%.200q) = %d, %.80q, %v, not %d, %.80q, %v", p, n, got, e, dir, s, want)
	}
}

// checkReal holds what Real answers against the path that is asked for; the empty text stands for none.
func checkReal(t *testing.T, x *tree.Tree, n int, want string) {
	t.Helper()
	if got, ok := seek.Real(x, n); got != want || ok != (want != "") {
		t.Errorf("Real(%d) = %.200q, %v, not %.200q", n, got, ok, want)
	}
}

// checkStraight holds what Straight answers against what is asked for.
func checkStraight(t *testing.T, x *tree.Tree, p string, want bool) {
	t.Helper()
	if got := seek.Straight(x, p); got != want {
		t.Errorf("Straight(%.200q) = %v", p, got)
	}
}

// checkAll holds all that is told of a path against the slow answers.
func checkAll(t *testing.T, w world, p string) {
	t.Helper()
	for _, last := range []bool{false, true} {
		n, e := w.find(p, last)
		checkFind(t, w.x, p, last, n, e)
	}
	dir, s, e := w.spot(p)
	checkSpot(t, w.x, p, dir, s, e)
	checkStraight(t, w.x, p, w.straight(p))
}

// checkNodes holds Real of each node against its path, and P8.5.
func checkNodes(t *testing.T, w world) {
	t.Helper()
	for p, s := range w.nodes {
		checkReal(t, w.x, s.n, p)
		if len(p) > api.MaxPath {
			checkBoth(t, w.x, p, 0, api.ErrName)
			continue
		}
		checkFind(t, w.x, p, false, s.n, api.OK)
		if s.kind != api.Link {
			checkFind(t, w.x, p, true, s.n, api.OK)
		}
		if s.kind == api.Dir {
			checkStraight(t, w.x, p, true)
		}
	}
}

// grown answers a world with nodes of all kinds, and links of all kinds.
func grown(t *testing.T) world {
	t.Helper()
	w := newWorld()
	w.dir(t, "/a")              // 2
	w.dir(t, "/a/b")            // 3
	w.file(t, "/a/b/f")         // 4
	w.link(t, "/l", "a/b")      // 5
	w.link(t, "/a/up", "../l")  // 6
	w.link(t, "/a/b/abs", "/a") // 7
	w.link(t, "/ring", "ring")  // 8
	w.link(t, "/gone", "nix")   // 9
	w.link(t, "/f", "l/./f/")   // 10
	w.link(t, "/a/here", ".")   // 11
	w.link(t, "/a/b/top", "//") // 12
	w.file(t, "/a/b/nix")       // 13
	w.dir(t, "/c")              // 14
	w.link(t, "/c/a", "../a/b") // 15
	w.dir(t, "/a/l")            // 16
	return w
}

// P8.1: names, from Root on, with and without a slash ahead; what is empty, and one point, is no part.
func TestFindNames(t *testing.T) {
	x := grown(t).x
	for p, n := range map[string]int{
		"/": 1, ".": 1, "//": 1, "/.": 1, "./": 1, "././": 1, ".//.": 1, strings.Repeat("/", api.MaxPath): 1,
		"a": 2, "/a": 2, "a/": 2, "/a/": 2, "//a//": 2, "./a": 2, "a/.": 2, "/./a/./": 2,
		"a/b": 3, "/a/b": 3, "a//b": 3, "a/./b": 3, "/a/b/.": 3, "a/b/f": 4, "/a/b/f": 4, "/c": 14, "/a/l": 16, "a/b/nix": 13,
		// Behind a file what is no part is nothing.
		"a/b/f/": 4, "a/b/f/.": 4, "a/b/f//.//": 4,
	} {
		checkBoth(t, x, p, n, api.OK)
	}
}

// P8.1: two points go to the directory that a directory stands in, of Root to Root.
func TestFindUp(t *testing.T) {
	x := grown(t).x
	for p, n := range map[string]int{
		"..": 1, "/..": 1, "../..": 1, "/../../..": 1, "../a": 2, "/../a/": 2, "a/..": 1, "a/../a": 2, "a/b/..": 2, "a/b/../b/f": 4, "a/b/../..": 1, "a/b/../../..": 1, "a/../c": 14, "a/b/../../a/b/../l": 16, "a/./..": 1, "a//..//c": 14, "./..": 1,
	} {
		checkBoth(t, x, p, n, api.OK)
	}
	// Other names of points are names.
	w := newWorld()
	w.dir(t, "/...")
	w.dir(t, "/.../..a")
	w.file(t, "/.../..a/.f")
	w.file(t, "/....")
	for p, n := range map[string]int{"...": 2, "/.../": 2, ".../..": 1, ".../..a": 3, ".../..a/.f": 4, ".../..a/../..a": 3, "....": 5} {
		checkBoth(t, w.x, p, n, api.OK)
	}
	checkBoth(t, w.x, "...../..", 0, api.ErrNone)
	checkBoth(t, w.x, ".../.a", 0, api.ErrNone)
	checkBoth(t, w.x, "..../..", 0, api.ErrNotDir)
}

// P8.1: a link with a part behind it is followed, from the directory in which it stands; with a slash ahead from Root on.
func TestFindThroughLinks(t *testing.T) {
	x := grown(t).x
	for p, n := range map[string]int{
		"l/f": 4, "/l/f": 4, "l//./f": 4, "l/abs/b": 3, "l/..": 2, "l/../l": 16, "l/../b/f": 4, "l/../../c": 14,
		// From where the link stands, not from where the path came.
		"a/up/f": 4, "a/up/..": 2, "a/up/../..": 1, "l/../up/f": 4, "c/a/f": 4, "c/a/..": 2, "c/a/../up/nix": 13,
		"a/b/abs/b": 3, "a/b/abs/..": 1, "a/b/abs/up/abs/l": 16, "l/abs/up/f": 4,
		// Texts without parts.
		"a/here/b": 3, "a/here/..": 1, "a/here/here/l": 16, "a/b/top/a": 2, "a/b/top/..": 1, "a/b/top/c/a/top/a/here/b": 3,
		// The name a is another one in c.
		"c/a/../b/abs/../c": 14,
	} {
		checkBoth(t, x, p, n, api.OK)
	}
	// With a link l to a/b at Root: Find of l/c leads where a/b/c does.
	for _, c := range []string{"f", "nix", "nothing", "abs", "top", "abs/l", "..", "../..", "f/x", "f/", over, "\x00"} {
		for _, last := range []bool{false, true} {
			n, e := seek.Find(x, "a/b/"+c, last)
			checkFind(t, x, "l/"+c, last, n, e)
		}
	}
}

// P8.1: a link at the end is followed just if last is set, and so are those that it leads to.
func TestFindLast(t *testing.T) {
	x := grown(t).x
	for p, n := range map[string][2]int{
		"l": {5, 3}, "/l": {5, 3}, "a/up": {6, 3}, "l/abs": {7, 2}, "a/b/abs": {7, 2}, "f": {10, 4}, "a/here": {11, 2}, "a/here/here": {11, 2}, "a/b/top": {12, 1}, "a/up/top": {12, 1}, "c/a": {15, 3}, "c/../l": {5, 3},
		// What is no part doesn't let it be followed.
		"l/": {5, 3}, "l//": {5, 3}, "l/.": {5, 3}, "l/./": {5, 3}, "/./l/.//.": {5, 3},
	} {
		checkFind(t, x, p, false, n[0], api.OK)
		checkFind(t, x, p, true, n[1], api.OK)
	}
	// Where it leads nowhere it is there all the same.
	checkFind(t, x, "gone", false, 9, api.OK)
	checkFind(t, x, "gone", true, 0, api.ErrNone)
	checkFind(t, x, "ring", false, 8, api.OK)
	checkFind(t, x, "ring", true, 0, api.ErrLoop)
}

// P8.1: each error.
func TestFindErrors(t *testing.T) {
	x := grown(t).x
	x.Put(1, "deep", api.Link, "a/"+over)
	x.Put(1, "zero", api.Link, "a\x00")
	x.Put(1, "into", api.Link, "f/f")
	for p, want := range map[string]api.Errno{
		"": api.ErrNone, strings.Repeat("/", api.MaxPath+1): api.ErrName, strings.Repeat("a/", api.MaxPath): api.ErrName,
		"nix": api.ErrNone, "/nix": api.ErrNone, "a/nix": api.ErrNone, "nix/..": api.ErrNone, "a/b/a": api.ErrNone, "A": api.ErrNone, "a ": api.ErrNone, " ": api.ErrNone, "a\\b": api.ErrNone, "ab": api.ErrNone, "aa": api.ErrNone, full: api.ErrNone, "a/" + full: api.ErrNone, "\xff": api.ErrNone,
		"gone/x": api.ErrNone, "gone/..": api.ErrNone, "gone/../a": api.ErrNone, "l/a": api.ErrNone, "a/here/nix": api.ErrNone,
		"a/b/f/x": api.ErrNotDir, "a/b/f/..": api.ErrNotDir, "a/b/f/../f": api.ErrNotDir, "a/b/f/./..": api.ErrNotDir, "f/x": api.ErrNotDir, "f/..": api.ErrNotDir, "l/f/x": api.ErrNotDir,
		over: api.ErrName, "/" + over: api.ErrName, "a/" + over: api.ErrName, over + "/..": api.ErrName, "\x00": api.ErrName, "a/\x00": api.ErrName, "a\x00": api.ErrName, "\x00a": api.ErrName, "a/b\x00c": api.ErrName, "l/\x00/f": api.ErrName, strings.Repeat(".", api.MaxName+1): api.ErrName, ".\x00": api.ErrName, "..\x00": api.ErrName,
		"ring/x": api.ErrLoop, "ring/..": api.ErrLoop, "a/../ring/a": api.ErrLoop,
		"deep/x": api.ErrName, "zero/x": api.ErrName, "into/x": api.ErrNotDir,
	} {
		checkBoth(t, x, p, 0, want)
	}
	checkFind(t, x, "deep", true, 0, api.ErrName)
	checkFind(t, x, "zero", true, 0, api.ErrName)
	checkFind(t, x, "into", true, 0, api.ErrNotDir)
}

// P8.1: of several errors the one that is met first, and of one part the one that is named first.
func TestFindErrorsInOrder(t *testing.T) {
	x := grown(t).x
	for p, want := range map[string]api.Errno{
		// A file is no directory, whatever the name behind it.
		"a/b/f/" + over: api.ErrNotDir, "a/b/f/\x00": api.ErrNotDir, "a/b/f/nix": api.ErrNotDir, "f/" + over: api.ErrNotDir, "f/\x00": api.ErrNotDir,
		// What is met first.
		"nix/" + over: api.ErrNone, over + "/nix": api.ErrName, "nix/ring/x": api.ErrNone, "ring/nix": api.ErrLoop, "ring/" + over: api.ErrLoop, "ring/\x00": api.ErrLoop, "\x00/ring/x": api.ErrName, "gone/" + over: api.ErrNone, "a/b/f/x/nix": api.ErrNotDir, "a/nix/f/x": api.ErrNone, "nix/a/b/f/x": api.ErrNone, "f/x/" + over: api.ErrNotDir, over + "/a/b/f/x": api.ErrName,
		// A path that is too long, whatever is in it.
		"a/b/f/x" + strings.Repeat("/", api.MaxPath): api.ErrName, "nix" + strings.Repeat("/", api.MaxPath): api.ErrName, "ring/x" + strings.Repeat("/", api.MaxPath): api.ErrName, "a" + strings.Repeat("/.", api.MaxPath): api.ErrName,
	} {
		checkBoth(t, x, p, 0, want)
	}
}

// P8.1: of each byte, but the slash and 0, there may be a name; of 0 there is none.
func TestFindEachByte(t *testing.T) {
	w := newWorld()
	nodes := map[byte]int{}
	for c := range 256 {
		b := byte(c)
		if b != 0 && b != '/' {
			nodes[b] = w.file(t, "/x"+string([]byte{b}))
		}
	}
	for c := range 256 {
		b := byte(c)
		p, want := "x"+string([]byte{b}), api.OK
		switch b {
		case 0:
			want = api.ErrName
		case '/':
			want = api.ErrNone
		}
		checkBoth(t, w.x, p, nodes[b], want)
	}
}

// P8.1, P8.3: at MaxPath and MaxName bytes, and at one more.
func TestLong(t *testing.T) {
	w := newWorld()
	p := ""
	for range 15 {
		p += "/" + full
		w.dir(t, p)
	}
	p += "/" + strings.Repeat("d", api.MaxPath-len(p)-1)
	n := w.dir(t, p)
	if len(p) != api.MaxPath {
		t.Fatal(len(p))
	}
	checkBoth(t, w.x, p, n, api.OK)
	checkReal(t, w.x, n, p)
	checkStraight(t, w.x, p, true)
	checkBoth(t, w.x, p[1:]+"/", n, api.OK)
	checkBoth(t, w.x, p+"/", 0, api.ErrName)
	checkSpot(t, w.x, p, w.x.Up(n), gopath.Base(p), api.OK)
	checkSpot(t, w.x, p+"/", 0, "", api.ErrName)
	// One byte more, and much more.
	m := w.dir(t, p+"d")
	checkBoth(t, w.x, p+"d", 0, api.ErrName)
	checkSpot(t, w.x, p+"d", 0, "", api.ErrName)
	checkReal(t, w.x, m, p+"d")
	checkStraight(t, w.x, p+"d", false)
	below := w.file(t, p+"d/f")
	checkReal(t, w.x, below, p+"d/f")
	checkStraight(t, w.x, p+"/d", false)
	// Of a link's text alone no bytes are counted.
	w.link(t, "/l", p+"d/f")
	checkFind(t, w.x, "l", true, below, api.OK)
	w.link(t, "/k", p+"d")
	checkBoth(t, w.x, "k/f", below, api.OK)
	checkSpot(t, w.x, "k/g", m, "g", api.OK)
	checkNodes(t, w)
	// Paths that are short, of many parts.
	w = newWorld()
	w.dir(t, "/a")
	checkBoth(t, w.x, strings.Repeat("a/../", api.MaxPath/5)+"a", 2, api.OK)
	checkBoth(t, w.x, "/a"+strings.Repeat("/", api.MaxPath-2), 2, api.OK)
	checkBoth(t, w.x, "/a"+strings.Repeat("/", api.MaxPath-1), 0, api.ErrName)
	checkSpot(t, w.x, "/a"+strings.Repeat("/", api.MaxPath-2), 1, "a", api.OK)
	checkSpot(t, w.x, "/a"+strings.Repeat("/", api.MaxPath-1), 0, "", api.ErrName)
}

// chained answers a world with a directory a, and in it b, and links s1 to s50, each of which leads to the one ahead, and s1 to a.
func chained(t *testing.T) world {
	t.Helper()
	w := newWorld()
	w.dir(t, "/a")
	w.dir(t, "/a/b")
	w.link(t, "/s1", "a")
	for i := 2; i <= 50; i++ {
		w.link(t, "/s"+strconv.Itoa(i), "s"+strconv.Itoa(i-1))
	}
	return w
}

// P8.1, P8.2: MaxHops links are followed on a path, and not one more.
func TestHops(t *testing.T) {
	w := chained(t)
	for i := 1; i <= 50; i++ {
		s := "s" + strconv.Itoa(i)
		if i <= api.MaxHops {
			checkFind(t, w.x, s, true, 2, api.OK)
			checkBoth(t, w.x, s+"/b", 3, api.OK)
			checkSpot(t, w.x, s+"/new", 2, "new", api.OK)
		} else {
			checkFind(t, w.x, s, true, 0, api.ErrLoop)
			checkBoth(t, w.x, s+"/b", 0, api.ErrLoop)
			checkSpot(t, w.x, s+"/new", 0, "", api.ErrLoop)
		}
		checkFind(t, w.x, s, false, w.nodes["/"+s].n, api.OK)
		checkSpot(t, w.x, s, 1, s, api.OK)
	}
	if api.MaxHops != 40 {
		t.Error(api.MaxHops)
	}
}

// P8.1, P8.2: links are counted along the whole path, one that is followed again once more.
func TestHopsAgain(t *testing.T) {
	w := chained(t)
	again := func(n int) string { return strings.Repeat("s1/../", n) }
	checkBoth(t, w.x, again(40)+"a", 2, api.OK)
	checkBoth(t, w.x, again(41)+"a", 0, api.ErrLoop)
	checkFind(t, w.x, again(40)+"s1", false, 4, api.OK)
	checkFind(t, w.x, again(40)+"s1", true, 0, api.ErrLoop)
	checkFind(t, w.x, again(39)+"s1", true, 2, api.OK)
	checkBoth(t, w.x, again(20)+"s20/b", 3, api.OK)
	checkBoth(t, w.x, again(20)+"s21/b", 0, api.ErrLoop)
	checkBoth(t, w.x, "s20/../"+again(20)+"a/b", 3, api.OK)
	checkBoth(t, w.x, "s20/../"+again(21)+"a/b", 0, api.ErrLoop)
	checkSpot(t, w.x, again(40)+"s1", 1, "s1", api.OK)
	checkSpot(t, w.x, again(40)+"s1/x", 0, "", api.ErrLoop)
	checkSpot(t, w.x, again(39)+"s1/x", 2, "x", api.OK)
	checkSpot(t, w.x, again(41)+"new", 0, "", api.ErrLoop)
	// A count is of one call alone.
	checkBoth(t, w.x, again(40)+"a", 2, api.OK)
	// Links in a link's text are counted, too.
	w.link(t, "/twice", "s1/../s1")
	checkBoth(t, w.x, strings.Repeat("twice/../", 13)+"s1/b", 3, api.OK)
	checkFind(t, w.x, strings.Repeat("twice/../", 13)+"s1/../s1", true, 0, api.ErrLoop)
	checkFind(t, w.x, strings.Repeat("twice/../", 13)+"twice", true, 0, api.ErrLoop)
	checkFind(t, w.x, strings.Repeat("twice/../", 12)+"twice", true, 2, api.OK)
}

// P8.1: the link that is one too many is met ahead of where it leads, and behind what is ahead of it.
func TestHopsInOrder(t *testing.T) {
	w := chained(t)
	w.link(t, "/gone", "nix")
	w.link(t, "/wrong", over)
	again := func(n int) string { return strings.Repeat("s1/../", n) }
	for _, s := range []string{"gone", "wrong"} {
		checkFind(t, w.x, again(40)+s, true, 0, api.ErrLoop)
		checkFind(t, w.x, again(40)+s, false, w.nodes["/"+s].n, api.OK)
		checkBoth(t, w.x, again(40)+s+"/x", 0, api.ErrLoop)
	}
	checkFind(t, w.x, again(39)+"gone", true, 0, api.ErrNone)
	checkFind(t, w.x, again(39)+"wrong", true, 0, api.ErrName)
	checkBoth(t, w.x, again(40)+"nix", 0, api.ErrNone)
	checkBoth(t, w.x, again(40)+over, 0, api.ErrName)
	checkBoth(t, w.x, again(40)+"nix/s1/x", 0, api.ErrNone)
	checkBoth(t, w.x, again(41)+over, 0, api.ErrLoop)
}

// P8.1: links that lead to one another, or into themselves, come to an end.
func TestRings(t *testing.T) {
	w := newWorld()
	w.dir(t, "/a")
	w.link(t, "/one", "two")
	w.link(t, "/two", "/a/three/")
	w.link(t, "/a/three", "../one/.")
	w.link(t, "/grows", "grows/grows/grows")
	w.link(t, "/a/self", "../a/self/x")
	w.link(t, "/root", "/")
	for _, p := range []string{"one", "two", "a/three", "grows", "a/self", "root/one", "root/a/self"} {
		checkFind(t, w.x, p, true, 0, api.ErrLoop)
		checkBoth(t, w.x, p+"/a", 0, api.ErrLoop)
		checkBoth(t, w.x, p+"/..", 0, api.ErrLoop)
		checkSpot(t, w.x, p+"/a", 0, "", api.ErrLoop)
	}
	checkBoth(t, w.x, strings.Repeat("root/", 40)+"a", 2, api.OK)
	checkBoth(t, w.x, strings.Repeat("root/", 41)+"a", 0, api.ErrLoop)
}

// P8.1, R1: texts of MaxFile bytes, in a tree of MaxNodes nodes, are gone to their end.
func TestLongTexts(t *testing.T) {
	w := newWorld()
	w.dir(t, "/a")
	w.file(t, "/a/f")
	longest := func(part, end string) string {
		s := strings.Repeat(part, (api.MaxFile-len(end))/len(part)) + end
		return strings.Repeat("/", api.MaxFile-len(s)) + s
	}
	w.link(t, "/points", longest("./", "a"))
	w.link(t, "/slashes", longest("/", "a"))
	w.link(t, "/up", longest("a/../", "a"))
	w.link(t, "/ups", longest("../", "a"))
	w.link(t, "/ring", longest("a/../", "ring"))
	w.link(t, "/grows", "grows"+strings.Repeat("/a", api.MaxFile/2-3))
	w.link(t, "/name", strings.Repeat("n", api.MaxFile))
	w.link(t, "/into", longest("f/", "f"))
	for n := w.x.Len(); n < api.MaxNodes; n++ {
		w.file(t, "/"+strings.Repeat("n", 50)+strconv.Itoa(n))
	}
	for _, s := range []string{"points", "slashes", "up", "ups"} {
		checkFind(t, w.x, s, true, 2, api.OK)
		checkBoth(t, w.x, s+"/f", 3, api.OK)
		checkSpot(t, w.x, s+"/g", 2, "g", api.OK)
	}
	checkFind(t, w.x, "ring", true, 0, api.ErrLoop)
	checkFind(t, w.x, "grows", true, 0, api.ErrLoop)
	checkFind(t, w.x, "name", true, 0, api.ErrName)
	checkFind(t, w.x, "into", true, 0, api.ErrNone)
	checkBoth(t, w.x, strings.Repeat("up/../", 40)+"a", 2, api.OK)
	checkNodes(t, w)
}

// P8.2: where the last part stands, or would stand.
func TestSpot(t *testing.T) {
	x := grown(t).x
	for _, c := range []struct {
		p   string
		dir int
		s   string
	}{
		// What is there, and what isn't.
		{"a", 1, "a"}, {"/a", 1, "a"}, {"new", 1, "new"}, {"/new", 1, "new"}, {"a/b", 2, "b"}, {"a/new", 2, "new"}, {"/a/b/f", 3, "f"}, {"a/b/new", 3, "new"}, {"c/new", 14, "new"},
		// What is no part is none at the end, either.
		{"a/", 1, "a"}, {"a/.", 1, "a"}, {"/./a//./", 1, "a"}, {"a/b/.", 2, "b"}, {"a//new//", 2, "new"}, {"./new/.", 1, "new"},
		// A link at the end isn't followed, the others are.
		{"l", 1, "l"}, {"l/", 1, "l"}, {"gone", 1, "gone"}, {"ring", 1, "ring"}, {"a/up", 2, "up"}, {"l/new", 3, "new"}, {"l/f", 3, "f"}, {"l/abs", 3, "abs"}, {"l/abs/new", 2, "new"}, {"a/up/new", 3, "new"}, {"a/b/top/new", 1, "new"}, {"a/here/new", 2, "new"}, {"c/a/new", 3, "new"}, {"a/b/abs/l", 2, "l"},
		// Two points ahead of the end.
		{"../new", 1, "new"}, {"a/../new", 1, "new"}, {"a/b/../new", 2, "new"}, {"l/../new", 2, "new"}, {"a/b/../../c/new", 14, "new"},
		// Names of all kinds.
		{"a/" + full, 2, full}, {"...", 1, "..."}, {"a/...", 2, "..."}, {"a/..b", 2, "..b"}, {"a/\xff\n", 2, "\xff\n"}, {"a/ ", 2, " "}, {"a\\b", 1, "a\\b"},
	} {
		checkSpot(t, x, c.p, c.dir, c.s, api.OK)
	}
}

// P8.2: each error, and of several that apply the one that is named first.
func TestSpotErrors(t *testing.T) {
	x := grown(t).x
	for p, want := range map[string]api.Errno{
		"": api.ErrNone, strings.Repeat("/", api.MaxPath+1): api.ErrName, strings.Repeat("../", api.MaxPath): api.ErrName, "a" + strings.Repeat("/", api.MaxPath): api.ErrName, "nix/" + strings.Repeat("x", api.MaxPath): api.ErrName,
		"/": api.ErrExist, "//": api.ErrExist, ".": api.ErrExist, "./": api.ErrExist, "/.": api.ErrExist, "././/.": api.ErrExist, strings.Repeat("/", api.MaxPath): api.ErrExist,
		"..": api.ErrExist, "/..": api.ErrExist, "../": api.ErrExist, "../.": api.ErrExist, "a/..": api.ErrExist, "a/../": api.ErrExist, "a/.././": api.ErrExist, "../..": api.ErrExist, "a/b/f/..": api.ErrExist, "nix/..": api.ErrExist, "ring/..": api.ErrExist, over + "/..": api.ErrExist, "\x00/..": api.ErrExist,
		// Of the parts ahead.
		"nix/x": api.ErrNone, "a/nix/x": api.ErrNone, "gone/x": api.ErrNone, "gone/../x": api.ErrNone, "l/nothing/x": api.ErrNone, "nix/../x": api.ErrNone,
		over + "/x": api.ErrName, "a\x00/x": api.ErrName, "a/" + over + "/x": api.ErrName, over + "/../x": api.ErrName,
		"ring/x": api.ErrLoop, "ring/../x": api.ErrLoop, "a/b/f/x/y": api.ErrNotDir, "a/b/f/../x": api.ErrNotDir,
		// They lead to a file.
		"a/b/f/x": api.ErrNotDir, "f/x": api.ErrNotDir, "l/f/x": api.ErrNotDir, "a/b/f/./x/": api.ErrNotDir,
		// The last part.
		over: api.ErrName, "a/" + over: api.ErrName, "\x00": api.ErrName, "a/x\x00": api.ErrName, "l/\x00x": api.ErrName, "l/" + over + "/.": api.ErrName, "..\x00": api.ErrName, strings.Repeat(".", api.MaxName+1): api.ErrName,
		// The parts ahead are ahead of the last one.
		"nix/" + over: api.ErrNone, "nix/\x00": api.ErrNone, "ring/" + over: api.ErrLoop, "a/b/f/" + over: api.ErrNotDir, "f/\x00": api.ErrNotDir, "gone/" + over: api.ErrNone,
	} {
		checkSpot(t, x, p, 0, "", want)
	}
}

// P8.3: the path of each node, and of numbers that are none's.
func TestReal(t *testing.T) {
	w := grown(t)
	checkNodes(t, w)
	checkReal(t, w.x, tree.Root, "/")
	for n, p := range []string{"", "/", "/a", "/a/b", "/a/b/f", "/l", "/a/up", "/a/b/abs", "/ring", "/gone", "/f", "/a/here", "/a/b/top", "/a/b/nix", "/c", "/c/a", "/a/l", "", ""} {
		checkReal(t, w.x, n, p)
	}
	for _, n := range []int{-1, -2, 100, 1 << 62, -1 << 63} {
		checkReal(t, w.x, n, "")
	}
	w.dir(t, "/...")
	w.file(t, "/.../ \n\xff\\")
	w.file(t, "/..b")
	checkNodes(t, w)
}

// P8.3: nodes that are moved, cut, put in another one's place.
func TestRealMoved(t *testing.T) {
	x := grown(t).x
	if e := x.Move(tree.Root, "a", 14, "moved"); e != api.OK {
		t.Fatal(e)
	}
	for n, p := range map[int]string{2: "/c/moved", 3: "/c/moved/b", 4: "/c/moved/b/f", 6: "/c/moved/up", 14: "/c", 16: "/c/moved/l", 5: "/l"} {
		checkReal(t, x, n, p)
	}
	checkBoth(t, x, "/c/moved/b/f", 4, api.OK)
	checkBoth(t, x, "/a/b/f", 0, api.ErrNone)
	checkBoth(t, x, "/l/f", 0, api.ErrNone)
	checkStraight(t, x, "/c/moved/b", true)
	checkStraight(t, x, "/a/b", false)
	x.Cut(3, "f")
	checkReal(t, x, 4, "")
	checkBoth(t, x, "/c/moved/b/f", 0, api.ErrNone)
	n, _ := x.Put(3, "f", api.Dir, "")
	checkReal(t, x, n, "/c/moved/b/f")
	checkReal(t, x, 4, "")
	checkStraight(t, x, "/c/moved/b/f", true)
	if e := x.Move(tree.Root, "l", tree.Root, "gone"); e != api.OK {
		t.Fatal(e)
	}
	checkReal(t, x, 5, "/gone")
	checkReal(t, x, 9, "")
}

// P8.3: directories as deep as they may be.
func TestDeep(t *testing.T) {
	x := tree.New()
	at, p := tree.Root, ""
	for x.Len() < api.MaxNodes {
		s := "d" + strconv.Itoa(x.Len())
		n, e := x.Put(at, s, api.Dir, "")
		if e != api.OK {
			t.Fatal(e)
		}
		at, p = n, p+"/"+s
		if len(p) <= api.MaxPath {
			checkBoth(t, x, p, n, api.OK)
			checkStraight(t, x, p, true)
			checkReal(t, x, n, p)
		}
	}
	checkReal(t, x, at, p)
	checkStraight(t, x, p, false)
	checkBoth(t, x, p, 0, api.ErrName)
}

// P8.3: Straight of paths that are clean and of directories alone, and of others.
func TestStraight(t *testing.T) {
	x := grown(t).x
	x.Put(1, "...", api.Dir, "")
	for p, want := range map[string]bool{
		"/": true, "/a": true, "/a/b": true, "/c": true, "/a/l": true, "/...": true,
		// Files, and what isn't there.
		"/a/b/f": false, "/a/b/f/x": false, "/nix": false, "/nix/a": false, "/a/nix": false, "/a/a": false, "/b": false, "/A": false, "/" + full: false,
		// Links, at the end and ahead of it.
		"/l": false, "/l/f": false, "/a/up": false, "/c/a": false, "/a/here": false, "/a/here/b": false, "/a/b/abs": false, "/a/b/abs/b": false, "/a/b/top": false, "/a/b/top/a": false, "/gone": false, "/ring": false, "/f": false,
		// What isn't clean.
		"": false, ".": false, "..": false, "a": false, "a/b": false, "//": false, "/a/": false, "//a": false, "/a//b": false, "/./a": false, "/a/.": false, "/a/..": false, "/a/../a": false, "/..": false, "/a/b/": false,
		// Names that may not be.
		"/\x00": false, "/a/\x00": false, "/" + over: false, "/a/" + over: false,
	} {
		checkStraight(t, x, p, want)
	}
}

// P8.4: of a nil tree, whatever else.
func TestNil(t *testing.T) {
	for _, p := range anyPaths {
		checkBoth(t, nil, p, 0, api.ErrNil)
		checkSpot(t, nil, p, 0, "", api.ErrNil)
		checkStraight(t, nil, p, false)
	}
	for _, n := range []int{tree.Root, 0, 2, -1, 1 << 62} {
		checkReal(t, nil, n, "")
	}
}

// pathsOf answers all paths of up to n pieces, with slashes between them.
func pathsOf(pieces []string, n int) []string {
	paths := []string{}
	last := []string{""}
	for range n {
		var next []string
		for _, p := range last {
			for _, s := range pieces {
				next = append(next, p+"/"+s)
			}
		}
		paths, last = append(paths, next...), next
	}
	return paths
}

// P8.1 to P8.3, P8.5: of all short paths in a tree of all kinds each call answers what the slow one does, and nothing is changed.
func TestLikeReference(t *testing.T) {
	w := grown(t)
	checkNodes(t, w)
	was := told(w.x)
	few := []string{"", ".", "..", "a", "b", "f", "l", "up", "abs", "ring", "gone", "nix", "here", "top", "c", over, "\x00"}
	for _, p := range slices.Concat(pathsOf(few, 4), pathsOf([]string{"..", "a", "b", "l", "up", "abs", "f"}, 5)) {
		checkAll(t, w, p)
		checkAll(t, w, p[1:])
		if seek.Straight(w.x, p) {
			n, _ := seek.Find(w.x, p, false)
			checkReal(t, w.x, n, p)
		}
		if t.Failed() {
			t.FailNow()
		}
	}
	if !slices.Equal(told(w.x), was) {
		t.Error("the tree is another one")
	}
}

// told answers all that a tree tells, as texts.
func told(x *tree.Tree) []string {
	l := []string{strconv.Itoa(x.Len())}
	for n := range api.MaxNodes {
		l = append(l, strconv.Itoa(x.Kind(n))+" "+strconv.Itoa(x.Up(n))+" "+x.Data(n))
		for _, e := range x.List(n) {
			l = append(l, e.Name+" "+strconv.Itoa(e.Node))
		}
	}
	y := x.Copy()
	n, _ := y.Put(tree.Root, "next", api.Dir, "")
	return append(l, strconv.Itoa(n))
}

// P8.1 to P8.3, P8.5: in trees that are put together by chance each call answers what the slow one does.
func TestByChance(t *testing.T) {
	// Numbers that jump about, the same ones each time.
	turn := 1
	next := func(n int) int {
		turn = turn * 48271 % (1<<31 - 1)
		return turn / 7 % n
	}
	pieces := []string{"a", "b", "c", "d", "a", "b", "c", "d", "..", "..", ".", "", "e"}
	text := func(most int) string {
		l := make([]string, 1+next(most))
		for i := range l {
			l[i] = pieces[next(len(pieces))]
		}
		return []string{"", "/"}[next(2)] + strings.Join(l, "/")
	}
	for range 300 {
		w := newWorld()
		dirs := []string{"/"}
		for range 20 {
			p := gopath.Join(dirs[next(len(dirs))], pieces[next(4)])
			if _, ok := w.nodes[p]; ok {
				continue
			}
			switch next(5) {
			case 0:
				w.file(t, p)
			case 1, 2:
				w.dir(t, p)
				dirs = append(dirs, p)
			default:
				if s := text(4); s != "" {
					w.link(t, p, s)
				}
			}
		}
		checkNodes(t, w)
		for range 300 {
			checkAll(t, w, text(8))
		}
		if t.Failed() {
			return
		}
	}
}

// P8.2, P8.3: what Real tells of Spot's directory is Straight, and by the part from there on Find comes to what the path leads to.
func TestTogether(t *testing.T) {
	w := grown(t)
	for _, p := range pathsOf([]string{"..", "a", "b", "f", "l", "up", "abs", "here", "nix"}, 4) {
		dir, s, e := seek.Spot(w.x, p)
		if e != api.OK {
			continue
		}
		up, ok := seek.Real(w.x, dir)
		if !ok || !path.Is(up) || !seek.Straight(w.x, up) {
			t.Errorf("Real(%d) = %q, %v", dir, up, ok)
		}
		for _, last := range []bool{false, true} {
			n, e := seek.Find(w.x, path.Join(up, s), last)
			checkFind(t, w.x, p, last, n, e)
		}
	}
}
