package posix_test

import (
	gopath "path"
	"regexp"
	"slices"
	"strconv"
	"strings"
	"testing"

	"linhay/api"
	"linhay/posix"
	"linhay/tree"
)

var (
	full    = strings.Repeat("n", api.MaxName)
	over    = full + "n"
	big     = strings.Repeat("d", api.MaxFile)
	tooLong = "/a" + strings.Repeat("/", api.MaxPath)
	// Paths of all kinds, for calls that answer the same of each.
	anyPaths = []string{"", "/", ".", "..", "a", "/a", "/a/b", "a/b/", "l", "f", "nix", "nix/x", "a\x00", "/" + over, tooLong}
)

// answer is what a call answers; what it doesn't answer is zero.
type answer struct {
	stat api.Stat
	text string // a text, or names with slashes between them
	yes  bool
	e    api.Errno
}

// spot is what a world keeps of a node.
type spot struct {
	n, kind int
	data    string
}

// world is a slow tree: nodes by their clean paths, and the number that was given last.
type world struct {
	nodes map[string]spot
	last  int
}

// newWorld answers a world with Root alone.
func newWorld() *world {
	return &world{map[string]spot{"/": {n: tree.Root, kind: api.Dir}}, tree.Root}
}

// copy answers a world that is as this one.
func (w *world) copy() *world {
	nodes := map[string]spot{}
	for p, s := range w.nodes {
		nodes[p] = s
	}
	return &world{nodes, w.last}
}

// tree answers a tree with a world's nodes, by their numbers.
func (w *world) tree(t *testing.T) *tree.Tree {
	t.Helper()
	paths := map[int]string{}
	for p, s := range w.nodes {
		paths[s.n] = p
	}
	x := tree.New()
	for n := tree.Root + 1; n <= w.last; n++ {
		p := paths[n]
		s := w.nodes[p]
		if got, e := x.Put(w.nodes[gopath.Dir(p)].n, gopath.Base(p), s.kind, s.data); got != n || e != api.OK {
			t.Fatalf("Put of %.80q: %d, %v", p, got, e)
		}
	}
	return x
}

// told answers all that a world has, as a text for each number, and the number that comes next.
func (w *world) told() []string {
	l := make([]string, w.last+1)
	for p, s := range w.nodes {
		l[s.n] = strings.Join(append([]string{strconv.Itoa(s.kind), s.data, strconv.Itoa(w.nodes[gopath.Dir(p)].n)}, w.names(p)...), "/")
	}
	return append(l, strconv.Itoa(w.last+1))
}

// told answers all that a tree has, as world's told does.
func told(x *tree.Tree) []string {
	y := x.Copy()
	for y.Len() >= api.MaxNodes {
		y.Cut(tree.Root, "last")
	}
	next, _ := y.Put(tree.Root, "the next one", api.Dir, "")
	l := make([]string, next)
	for n := range l {
		if x.Kind(n) == 0 {
			continue
		}
		words := []string{strconv.Itoa(x.Kind(n)), x.Data(n), strconv.Itoa(x.Up(n))}
		for _, e := range x.List(n) {
			words = append(words, e.Name)
		}
		l[n] = strings.Join(words, "/")
	}
	return append(l, strconv.Itoa(next))
}

// names answers the names in a directory, rising.
func (w *world) names(dir string) []string {
	var l []string
	for p := range w.nodes {
		if p != "/" && gopath.Dir(p) == dir {
			l = append(l, gopath.Base(p))
		}
	}
	slices.Sort(l)
	return l
}

// nothing is what a path may begin with that is no part.
var nothing = regexp.MustCompile(`^/*(\./+)*(\.$)?`)

// find answers the clean path of the node to which a path leads: a link's text is put ahead of the text that is left.
func (w *world) find(p string, last bool) (string, api.Errno) {
	switch {
	case p == "":
		return "", api.ErrNone
	case len(p) > api.MaxPath:
		return "", api.ErrName
	}
	at, hops := "/", 0
	for rest := nothing.ReplaceAllString(p, ""); rest != ""; rest = nothing.ReplaceAllString(rest, "") {
		var part string
		part, rest, _ = strings.Cut(rest, "/")
		if w.nodes[at].kind != api.Dir {
			return "", api.ErrNotDir
		}
		if part == ".." {
			at = gopath.Dir(at)
			continue
		}
		if len(part) > api.MaxName || strings.Contains(part, "\x00") {
			return "", api.ErrName
		}
		s, ok := w.nodes[gopath.Join(at, part)]
		if !ok {
			return "", api.ErrNone
		}
		if s.kind != api.Link || nothing.ReplaceAllString(rest, "") == "" && !last {
			at = gopath.Join(at, part)
			continue
		}
		if hops++; hops > api.MaxHops {
			return "", api.ErrLoop
		}
		if s.data[0] == '/' {
			at = "/"
		}
		rest = s.data + "/" + rest
	}
	return at, api.OK
}

// spot answers the clean path by which a path's last part stands, or would stand.
func (w *world) spot(p string) (string, api.Errno) {
	if p == "" {
		return "", api.ErrNone
	}
	if len(p) > api.MaxPath {
		return "", api.ErrName
	}
	parts := slices.DeleteFunc(strings.Split(p, "/"), func(s string) bool { return s == "" || s == "." })
	if len(parts) == 0 || parts[len(parts)-1] == ".." {
		return "", api.ErrExist
	}
	last := parts[len(parts)-1]
	dir, e := w.find("/"+strings.Join(parts[:len(parts)-1], "/"), true)
	switch {
	case e != api.OK:
		return "", e
	case w.nodes[dir].kind != api.Dir:
		return "", api.ErrNotDir
	case len(last) > api.MaxName || strings.Contains(last, "\x00"):
		return "", api.ErrName
	}
	return gopath.Join(dir, last), api.OK
}

// stat is a slow Lstat, or with last a slow Stat.
func (w *world) stat(p string, last bool) answer {
	at, e := w.find(p, last)
	if e != api.OK {
		return answer{e: e}
	}
	s := w.nodes[at]
	return answer{stat: api.Stat{Node: s.n, Kind: s.kind, Size: len(s.data) + len(w.names(at))}}
}

// read is a slow Readlink, List or Read, of nodes of the kind that it is for; of others it has the error wrong.
func (w *world) read(p string, last bool, kind int, wrong api.Errno) answer {
	at, e := w.find(p, last)
	if e == api.OK && w.nodes[at].kind != kind {
		e = wrong
	}
	if e != api.OK {
		return answer{e: e}
	}
	return answer{text: w.nodes[at].data + strings.Join(w.names(at), "/")}
}

// same is a slow Same.
func (w *world) same(a, b string) answer {
	n, e := w.find(a, true)
	m, f := w.find(b, true)
	return answer{yes: e == api.OK && f == api.OK && n == m}
}

// make is a slow Mkdir or Symlink; taken is the error where something stands already.
func (w *world) make(p string, kind int, data string, taken api.Errno) api.Errno {
	at, e := w.spot(p)
	if e != api.OK {
		return e
	}
	_, there := w.nodes[at]
	switch {
	case there:
		return taken
	case kind == api.Link && data == "":
		return api.ErrForm
	case len(data) > api.MaxFile:
		return api.ErrRange
	case len(w.nodes) == api.MaxNodes:
		return api.ErrSpace
	}
	w.last++
	w.nodes[at] = spot{w.last, kind, data}
	return api.OK
}

// take is a slow Rmdir, or, with dirs false, a slow Unlink.
func (w *world) take(p string, dirs bool) api.Errno {
	at, e := w.spot(p)
	if e != api.OK {
		return e
	}
	s, there := w.nodes[at]
	switch {
	case !there:
		return api.ErrNone
	case dirs && s.kind != api.Dir:
		return api.ErrNotDir
	case !dirs && s.kind == api.Dir:
		return api.ErrIsDir
	case len(w.names(at)) > 0:
		return api.ErrNotEmpty
	}
	delete(w.nodes, at)
	return api.OK
}

// rename is a slow Rename.
func (w *world) rename(a, b string) api.Errno {
	from, e := w.spot(a)
	if e != api.OK {
		return e
	}
	to, e := w.spot(b)
	if e != api.OK {
		return e
	}
	x, there := w.nodes[from]
	y, taken := w.nodes[to]
	switch {
	case !there:
		return api.ErrNone
	case x.kind == api.Dir && strings.HasPrefix(to, from+"/"):
		return api.ErrInside
	case from == to:
		return api.OK
	case taken && x.kind != api.Dir && y.kind == api.Dir:
		return api.ErrIsDir
	case taken && x.kind == api.Dir && y.kind != api.Dir:
		return api.ErrNotDir
	case len(w.names(to)) > 0:
		return api.ErrNotEmpty
	}
	moved := map[string]spot{}
	for p, s := range w.nodes {
		if p == from || strings.HasPrefix(p, from+"/") {
			moved[to+p[len(from):]] = s
			delete(w.nodes, p)
		}
	}
	for p, s := range moved {
		w.nodes[p] = s
	}
	return api.OK
}

// write is a slow Write.
func (w *world) write(p, data string) api.Errno {
	at, e := w.find(p, true)
	s := w.nodes[at]
	switch {
	case e == api.ErrNone:
		return w.make(p, api.File, data, api.ErrNone)
	case e != api.OK:
		return e
	case s.kind == api.Dir:
		return api.ErrIsDir
	case len(data) > api.MaxFile:
		return api.ErrRange
	}
	w.nodes[at] = spot{s.n, s.kind, data}
	return api.OK
}

// call is a call of posix, of a path and another text, and the slow one.
type call struct {
	name string
	fast func(x *tree.Tree, p, s string) answer
	slow func(w *world, p, s string) answer
}

// asking are the calls that change nothing, of one path.
var asking = []call{
	{"Lstat", func(x *tree.Tree, p, s string) answer {
		a, e := posix.Lstat(x, p)
		return answer{stat: a, e: e}
	}, func(w *world, p, s string) answer { return w.stat(p, false) }},
	{"Stat", func(x *tree.Tree, p, s string) answer {
		a, e := posix.Stat(x, p)
		return answer{stat: a, e: e}
	}, func(w *world, p, s string) answer { return w.stat(p, true) }},
	{"Readlink", func(x *tree.Tree, p, s string) answer {
		a, e := posix.Readlink(x, p)
		return answer{text: a, e: e}
	}, func(w *world, p, s string) answer { return w.read(p, false, api.Link, api.ErrLink) }},
	{"List", func(x *tree.Tree, p, s string) answer {
		a, e := posix.List(x, p)
		return answer{text: strings.Join(a, "/"), e: e}
	}, func(w *world, p, s string) answer { return w.read(p, true, api.Dir, api.ErrNotDir) }},
	{"Read", func(x *tree.Tree, p, s string) answer {
		a, e := posix.Read(x, p)
		return answer{text: a, e: e}
	}, func(w *world, p, s string) answer { return w.read(p, true, api.File, api.ErrIsDir) }},
}

// changing are the calls that change a tree, of one path and, some of them, a text.
var changing = []call{
	{"Mkdir", func(x *tree.Tree, p, s string) answer { return answer{e: posix.Mkdir(x, p)} },
		func(w *world, p, s string) answer { return answer{e: w.make(p, api.Dir, "", api.ErrExist)} }},
	{"Symlink", func(x *tree.Tree, p, s string) answer { return answer{e: posix.Symlink(x, s, p)} },
		func(w *world, p, s string) answer { return answer{e: w.make(p, api.Link, s, api.ErrExist)} }},
	{"Rmdir", func(x *tree.Tree, p, s string) answer { return answer{e: posix.Rmdir(x, p)} },
		func(w *world, p, s string) answer { return answer{e: w.take(p, true)} }},
	{"Unlink", func(x *tree.Tree, p, s string) answer { return answer{e: posix.Unlink(x, p)} },
		func(w *world, p, s string) answer { return answer{e: w.take(p, false)} }},
	{"Write", func(x *tree.Tree, p, s string) answer { return answer{e: posix.Write(x, p, s)} },
		func(w *world, p, s string) answer { return answer{e: w.write(p, s)} }},
}

// pairing are the calls of two paths.
var pairing = []call{
	{"Same", func(x *tree.Tree, p, s string) answer { return answer{yes: posix.Same(x, p, s)} },
		func(w *world, p, s string) answer { return w.same(p, s) }},
	{"Rename", func(x *tree.Tree, p, s string) answer { return answer{e: posix.Rename(x, p, s)} },
		func(w *world, p, s string) answer { return answer{e: w.rename(p, s)} }},
}

// checkCall holds what a call answers, and what the tree has behind it, against the slow one's; both are changed by it.
func checkCall(t *testing.T, c call, x *tree.Tree, w *world, p, s string) {
	t.Helper()
	got, want := c.fast(x, p, s), c.slow(w, p, s)
	if got != want {
		t.Errorf("%s of %.200q and %.200q: %.200v, not %.200v", c.name, p, s, got, want)
	}
	if !slices.Equal(told(x), w.told()) {
		t.Errorf("%s of %.200q and %.200q, %v: the tree is another one", c.name, p, s, want.e)
	}
	if t.Failed() {
		t.FailNow()
	}
}

// grown answers a world with nodes of all kinds, and links of all kinds.
func grown() *world {
	w := newWorld()
	for _, c := range []struct {
		p    string
		kind int
		data string
	}{
		{"/a", api.Dir, ""},           // 2
		{"/a/b", api.Dir, ""},         // 3
		{"/a/b/f", api.File, "one"},   // 4
		{"/l", api.Link, "a/b"},       // 5
		{"/a/up", api.Link, "../l"},   // 6
		{"/ring", api.Link, "ring"},   // 7
		{"/gone", api.Link, "nix"},    // 8
		{"/f", api.Link, "l/./f/"},    // 9
		{"/c", api.Dir, ""},           // 10
		{"/a/e", api.File, ""},        // 11
		{"/far", api.Link, "nix/x"},   // 12
		{"/into", api.Link, "f/x"},    // 13
		{"/top", api.Link, "/"},       // 14
		{"/a/d", api.Dir, ""},         // 15
		{"/a/new", api.Link, "b/new"}, // 16
		{"/c/l", api.Link, "../a/d"},  // 17
	} {
		w.make(c.p, c.kind, c.data, api.ErrExist)
	}
	return w
}

// filled answers a world with as many nodes as there may be: those of grown, and files at Root, last among them.
func filled() *world {
	w := grown()
	w.last++
	w.nodes["/last"] = spot{w.last, api.File, ""}
	for len(w.nodes) < api.MaxNodes {
		w.last++
		w.nodes["/f"+strconv.Itoa(w.last)] = spot{w.last, api.File, ""}
	}
	return w
}

// checkErr holds an error against the one that is asked for.
func checkErr(t *testing.T, call string, got, want api.Errno) {
	t.Helper()
	if got != want {
		t.Errorf("%.200s: %v, not %v", call, got, want)
	}
}

// checkStat holds what Lstat or Stat answers against what is asked for.
func checkStat(t *testing.T, x *tree.Tree, call func(*tree.Tree, string) (api.Stat, api.Errno), p string, want api.Stat, err api.Errno) {
	t.Helper()
	if got, e := call(x, p); got != want || e != err {
		t.Errorf("of %.200q: %v, %v, not %v, %v", p, got, e, want, err)
	}
}

// checkText holds what Readlink or Read answers against what is asked for.
func checkText(t *testing.T, x *tree.Tree, call func(*tree.Tree, string) (string, api.Errno), p, want string, err api.Errno) {
	t.Helper()
	if got, e := call(x, p); got != want || e != err {
		t.Errorf("of %.200q: %.80q, %v, not %.80q, %v", p, got, e, want, err)
	}
}

// checkList holds what List answers against what is asked for.
func checkList(t *testing.T, x *tree.Tree, p string, err api.Errno, want ...string) {
	t.Helper()
	if got, e := posix.List(x, p); !slices.Equal(got, want) || e != err {
		t.Errorf("List(%.200q) = %.200q, %v, not %.200q, %v", p, got, e, want, err)
	}
}

// checkSame holds what Same answers, both ways round, against what is asked for.
func checkSame(t *testing.T, x *tree.Tree, a, b string, want bool) {
	t.Helper()
	if posix.Same(x, a, b) != want || posix.Same(x, b, a) != want {
		t.Errorf("Same(%.200q, %.200q) isn't %v", a, b, want)
	}
}

// checkUnchanged holds a tree against the world that it was made of.
func checkUnchanged(t *testing.T, x *tree.Tree, w *world) {
	t.Helper()
	if !slices.Equal(told(x), w.told()) {
		t.Error("the tree is another one")
	}
}

// findErrors are errors of Find of paths in a grown world, with the link at the end or without it.
var findErrors = map[string]api.Errno{
	"": api.ErrNone, tooLong: api.ErrName, "nix": api.ErrNone, "/a/nix": api.ErrNone, "nix/..": api.ErrNone, "gone/x": api.ErrNone, "far/x": api.ErrNone, "a/b/f/x": api.ErrNotDir, "a/b/f/..": api.ErrNotDir, "f/x": api.ErrNotDir, "into/x": api.ErrNotDir, over: api.ErrName, "a/\x00": api.ErrName, "ring/x": api.ErrLoop, "l/" + over: api.ErrName, "top/ring/..": api.ErrLoop, full: api.ErrNone,
}

// lastErrors are errors of Find of paths in a grown world, if the link at the end is followed.
var lastErrors = map[string]api.Errno{"gone": api.ErrNone, "far": api.ErrNone, "ring": api.ErrLoop, "into": api.ErrNotDir, "a/new": api.ErrNone, "top/gone": api.ErrNone, "gone/": api.ErrNone, "ring/.": api.ErrLoop}

// spotErrors are errors of Spot of paths in a grown world.
var spotErrors = map[string]api.Errno{
	"": api.ErrNone, tooLong: api.ErrName, "/": api.ErrExist, ".": api.ErrExist, "..": api.ErrExist, "a/..": api.ErrExist, "c/../": api.ErrExist, "nix/..": api.ErrExist, "a/b/f/..": api.ErrExist, "nix/x": api.ErrNone, "gone/x": api.ErrNone, "far/x": api.ErrNone, "a/b/f/x": api.ErrNotDir, "f/x": api.ErrNotDir, "into/x": api.ErrNotDir, "ring/x": api.ErrLoop, over: api.ErrName, "a/" + over: api.ErrName, "a/x\x00": api.ErrName, "l/\x00": api.ErrName, "nix/" + over: api.ErrNone,
}

// P9.1: what Lstat and Stat tell of nodes of all kinds.
func TestStat(t *testing.T) {
	w := grown()
	x := w.tree(t)
	for p, want := range map[string]api.Stat{
		"/": {Node: 1, Kind: api.Dir, Size: 9}, "a": {Node: 2, Kind: api.Dir, Size: 5}, "/a/b": {Node: 3, Kind: api.Dir, Size: 1}, "a/b/f": {Node: 4, Kind: api.File, Size: 3}, "l/f": {Node: 4, Kind: api.File, Size: 3}, "a/up/f": {Node: 4, Kind: api.File, Size: 3}, "c/": {Node: 10, Kind: api.Dir, Size: 1}, "a/e": {Node: 11, Kind: api.File}, "l/../d": {Node: 15, Kind: api.Dir}, ".": {Node: 1, Kind: api.Dir, Size: 9}, "a/../..": {Node: 1, Kind: api.Dir, Size: 9},
	} {
		checkStat(t, x, posix.Lstat, p, want, api.OK)
		checkStat(t, x, posix.Stat, p, want, api.OK)
	}
	for p, want := range map[string][2]api.Stat{
		"l": {{Node: 5, Kind: api.Link, Size: 3}, {Node: 3, Kind: api.Dir, Size: 1}}, "l/": {{Node: 5, Kind: api.Link, Size: 3}, {Node: 3, Kind: api.Dir, Size: 1}}, "a/up": {{Node: 6, Kind: api.Link, Size: 4}, {Node: 3, Kind: api.Dir, Size: 1}}, "f": {{Node: 9, Kind: api.Link, Size: 6}, {Node: 4, Kind: api.File, Size: 3}}, "top": {{Node: 14, Kind: api.Link, Size: 1}, {Node: 1, Kind: api.Dir, Size: 9}}, "c/l": {{Node: 17, Kind: api.Link, Size: 6}, {Node: 15, Kind: api.Dir}}, "top/l/.": {{Node: 5, Kind: api.Link, Size: 3}, {Node: 3, Kind: api.Dir, Size: 1}},
	} {
		checkStat(t, x, posix.Lstat, p, want[0], api.OK)
		checkStat(t, x, posix.Stat, p, want[1], api.OK)
	}
	for p, n := range map[string]int{"gone": 8, "ring": 7, "far": 12, "into": 13, "a/new": 16, "ring/": 7} {
		checkStat(t, x, posix.Lstat, p, api.Stat{Node: n, Kind: api.Link, Size: len(x.Data(n))}, api.OK)
	}
	checkUnchanged(t, x, w)
}

// P9.1: Size counts bytes, and a directory's names alone.
func TestSize(t *testing.T) {
	w := newWorld()
	w.make("/d", api.Dir, "", api.ErrExist)
	for i, data := range []string{"", "x", "\x00", "\u00fc\n", "\xff\xfe", big} {
		w.make("/d/f"+strconv.Itoa(i), api.File, data, api.ErrExist)
	}
	w.make("/d/in", api.Dir, "", api.ErrExist)
	w.make("/d/in/x", api.File, "", api.ErrExist)
	w.make("/long", api.Link, big, api.ErrExist)
	w.make("/bytes", api.Link, "\u00fc", api.ErrExist)
	x := w.tree(t)
	for i, size := range []int{0, 1, 1, 3, 2, api.MaxFile} {
		checkStat(t, x, posix.Stat, "d/f"+strconv.Itoa(i), api.Stat{Node: 3 + i, Kind: api.File, Size: size}, api.OK)
	}
	checkStat(t, x, posix.Stat, "d", api.Stat{Node: 2, Kind: api.Dir, Size: 7}, api.OK)
	checkStat(t, x, posix.Stat, "d/in", api.Stat{Node: 9, Kind: api.Dir, Size: 1}, api.OK)
	checkStat(t, x, posix.Lstat, "long", api.Stat{Node: 11, Kind: api.Link, Size: api.MaxFile}, api.OK)
	checkStat(t, x, posix.Lstat, "bytes", api.Stat{Node: 12, Kind: api.Link, Size: 2}, api.OK)
}

// P9.1: errors of Find, beside which nothing is told.
func TestAskingErrors(t *testing.T) {
	w := grown()
	x := w.tree(t)
	for p, want := range findErrors {
		for _, c := range asking {
			if got := c.fast(x, p, ""); got != (answer{e: want}) {
				t.Errorf("%s(%.200q): %v, not %v", c.name, p, got, want)
			}
		}
		checkSame(t, x, p, p, false)
		checkSame(t, x, p, "/", false)
	}
	for p, want := range lastErrors {
		checkStat(t, x, posix.Stat, p, api.Stat{}, want)
		checkList(t, x, p, want)
		checkText(t, x, posix.Read, p, "", want)
		checkSame(t, x, p, p, false)
		checkSame(t, x, p, "/a", false)
	}
	checkUnchanged(t, x, w)
}

// P9.1: a link's text, the last link's alone; what is no link.
func TestReadlink(t *testing.T) {
	w := grown()
	w.make("/any", api.Link, "\x00\xff\n/../ ", api.ErrExist)
	w.make("/big", api.Link, big, api.ErrExist)
	x := w.tree(t)
	for p, want := range map[string]string{"l": "a/b", "/l": "a/b", "l/": "a/b", "l/.": "a/b", "a/up": "../l", "ring": "ring", "gone": "nix", "f": "l/./f/", "far": "nix/x", "into": "f/x", "top": "/", "top/top/l": "a/b", "c/l": "../a/d", "any": "\x00\xff\n/../ ", "big": big} {
		checkText(t, x, posix.Readlink, p, want, api.OK)
	}
	for _, p := range []string{"/", ".", "..", "a", "a/", "a/b", "l/f", "a/b/f", "a/e", "c", "l/.."} {
		checkText(t, x, posix.Readlink, p, "", api.ErrLink)
	}
	checkUnchanged(t, x, w)
}

// P9.1: a directory's names, rising, however they came there; what is no directory.
func TestList(t *testing.T) {
	w := grown()
	x := w.tree(t)
	root := []string{"a", "c", "f", "far", "gone", "into", "l", "ring", "top"}
	for p, want := range map[string][]string{
		"/": root, ".": root, "..": root, "top": root, "top/top/": root, "a/..": root, "a": {"b", "d", "e", "new", "up"}, "a/b": {"f"}, "l": {"f"}, "l/": {"f"}, "a/up": {"f"}, "c": {"l"}, "a/d": nil, "c/l": nil, "l/..": {"b", "d", "e", "new", "up"},
	} {
		checkList(t, x, p, api.OK, want...)
	}
	for _, p := range []string{"a/b/f", "/a/b/f/", "l/f", "f", "a/e", "top/f"} {
		checkList(t, x, p, api.ErrNotDir)
	}
	checkUnchanged(t, x, w)
	// Byte by byte.
	for _, s := range []string{"b", "B", "gcc-9", "\xff", "...", "gcc-12", "aa", "a", full, " "} {
		checkErr(t, "Mkdir of "+s, posix.Mkdir(x, "c/"+s), api.OK)
	}
	checkList(t, x, "c", api.OK, " ", "...", "B", "a", "aa", "b", "gcc-12", "gcc-9", "l", full, "\xff")
}

// R3: what List answers is new memory.
func TestListIsNew(t *testing.T) {
	x := grown().tree(t)
	l, _ := posix.List(x, "a")
	l[0] = "z"
	checkList(t, x, "a", api.OK, "b", "d", "e", "new", "up")
}

// P9.1: a file's bytes; of directories there are none.
func TestRead(t *testing.T) {
	w := grown()
	w.make("/any", api.File, "\x00\xff\n", api.ErrExist)
	w.make("/big", api.File, big, api.ErrExist)
	x := w.tree(t)
	for p, want := range map[string]string{"a/b/f": "one", "/a/b/f": "one", "a/b/f/": "one", "a/b/f/.": "one", "l/f": "one", "f": "one", "f/": "one", "top/f": "one", "a/up/f": "one", "a/e": "", "any": "\x00\xff\n", "big": big} {
		checkText(t, x, posix.Read, p, want, api.OK)
	}
	for _, p := range []string{"/", ".", "..", "a", "a/b/", "l", "a/up", "top", "c", "c/l", "a/d", "l/.."} {
		checkText(t, x, posix.Read, p, "", api.ErrIsDir)
	}
	checkUnchanged(t, x, w)
}

// P9.1: paths that lead to one node, and those that don't, or lead nowhere.
func TestSame(t *testing.T) {
	w := grown()
	x := w.tree(t)
	for _, l := range [][]string{{"/", ".", "..", "top", "a/..", "top/"}, {"a", "/a", "a/", "l/..", "a/b/.."}, {"a/b", "l", "a/up", "l/", "top/l"}, {"a/b/f", "f", "l/f", "a/up/f", "top/f"}, {"a/d", "c/l"}, {"a/e", "l/../e"}} {
		for _, a := range l {
			for _, b := range l {
				checkSame(t, x, a, b, true)
			}
		}
	}
	for _, l := range [][2]string{{"/", "a"}, {"a", "a/b"}, {"l", "l/f"}, {"a/d", "c"}, {"a/e", "f"}, {"a/d", "a/e"}, {"l", "a"}} {
		checkSame(t, x, l[0], l[1], false)
	}
	for _, a := range []string{"", "nix", "gone", "ring", "far", "into", "a/b/f/x", over, tooLong} {
		for _, b := range []string{"", "nix", "gone", "ring", "far", "into", "a/b/f/x", over, tooLong, "/", "a", "f"} {
			checkSame(t, x, a, b, false)
		}
	}
	checkUnchanged(t, x, w)
}

// P9.2: directories are made where a path's last part would stand.
func TestMkdir(t *testing.T) {
	x := grown().tree(t)
	for i, p := range []string{"new", "/a/new2", "l/x", "a/up/y/", "new/in", "top/new/in/z/.", "l/../w", "c/" + full, "new/\xff\n ", "..."} {
		checkErr(t, "Mkdir of "+p, posix.Mkdir(x, p), api.OK)
		checkStat(t, x, posix.Lstat, p, api.Stat{Node: 18 + i, Kind: api.Dir}, api.OK)
		checkErr(t, "Mkdir again of "+p, posix.Mkdir(x, p), api.ErrExist)
	}
	checkList(t, x, "a", api.OK, "b", "d", "e", "new", "new2", "up", "w")
	checkList(t, x, "a/b", api.OK, "f", "x", "y")
	checkList(t, x, "new", api.OK, "in", "\xff\n ")
	checkList(t, x, "new/in", api.OK, "z")
}

// P9.2: links are made with any text, whether it leads somewhere or not.
func TestSymlink(t *testing.T) {
	x := grown().tree(t)
	for i, text := range []string{"a", "..", "/", ".", "nix", "x/" + over, "\x00\xff\n", " ", big} {
		p := []string{"", "a/", "/l/", "top/c/", "c/l/"}[i%5] + "s" + strconv.Itoa(i)
		checkErr(t, "Symlink at "+p, posix.Symlink(x, text, p), api.OK)
		checkStat(t, x, posix.Lstat, p, api.Stat{Node: 18 + i, Kind: api.Link, Size: len(text)}, api.OK)
		checkText(t, x, posix.Readlink, p, text, api.OK)
		checkErr(t, "Symlink again at "+p, posix.Symlink(x, text, p), api.ErrExist)
	}
	checkList(t, x, "a/b", api.OK, "f", "s2", "s7")
	checkList(t, x, "c/l", api.OK, "s4")
	checkSame(t, x, "s0", "a", true)
}

// P9.2: errors of Spot, then of Put.
func TestMakingErrors(t *testing.T) {
	w := grown()
	x := w.tree(t)
	for p, want := range spotErrors {
		checkErr(t, "Mkdir of "+p, posix.Mkdir(x, p), want)
		for _, text := range []string{"a", "", big + "d"} {
			checkErr(t, "Symlink at "+p, posix.Symlink(x, text, p), want)
		}
	}
	// What stands there, a link that leads nowhere too.
	for _, p := range []string{"a", "/a/", "a/b", "l", "l/", "a/b/f", "f", "gone", "ring", "far", "into", "top", "a/e", "l/f/.", "c/l", "a/new"} {
		checkErr(t, "Mkdir of "+p, posix.Mkdir(x, p), api.ErrExist)
		for _, text := range []string{"a", "", big + "d"} {
			checkErr(t, "Symlink at "+p, posix.Symlink(x, text, p), api.ErrExist)
		}
	}
	for _, p := range []string{"nix", "a/nix", "l/nix/"} {
		checkErr(t, "Symlink of nothing at "+p, posix.Symlink(x, "", p), api.ErrForm)
		checkErr(t, "Symlink of too much at "+p, posix.Symlink(x, big+"d", p), api.ErrRange)
	}
	checkUnchanged(t, x, w)
}

// P9.2: empty directories are taken away.
func TestRmdir(t *testing.T) {
	w := grown()
	x := w.tree(t)
	for p, want := range spotErrors {
		checkErr(t, "Rmdir of "+p, posix.Rmdir(x, p), want)
	}
	for p, want := range map[string]api.Errno{
		"nix": api.ErrNone, "a/nix/": api.ErrNone, "l/x": api.ErrNone, full: api.ErrNone,
		"a/b/f": api.ErrNotDir, "a/e": api.ErrNotDir, "l/f": api.ErrNotDir, "l": api.ErrNotDir, "l/": api.ErrNotDir, "c/l": api.ErrNotDir, "c/l/.": api.ErrNotDir, "gone": api.ErrNotDir, "ring": api.ErrNotDir, "top": api.ErrNotDir, "f": api.ErrNotDir,
		"a": api.ErrNotEmpty, "/a/b": api.ErrNotEmpty, "c": api.ErrNotEmpty, "c/": api.ErrNotEmpty, "top/a": api.ErrNotEmpty, "l/../b": api.ErrNotEmpty,
	} {
		checkErr(t, "Rmdir of "+p, posix.Rmdir(x, p), want)
	}
	checkUnchanged(t, x, w)
	checkErr(t, "Rmdir", posix.Rmdir(x, "l/../d/"), api.OK)
	checkErr(t, "Rmdir again", posix.Rmdir(x, "a/d"), api.ErrNone)
	checkStat(t, x, posix.Stat, "a/d", api.Stat{}, api.ErrNone)
	checkStat(t, x, posix.Stat, "c/l", api.Stat{}, api.ErrNone)
	checkErr(t, "Unlink", posix.Unlink(x, "c/l"), api.OK)
	checkErr(t, "Rmdir", posix.Rmdir(x, "/c"), api.OK)
	checkList(t, x, "/", api.OK, "a", "f", "far", "gone", "into", "l", "ring", "top")
	if x.Kind(15) != 0 || x.Kind(10) != 0 || x.Len() != 14 {
		t.Error("a node is still there")
	}
}

// P9.2: files and links are taken away, and of a link nothing but it.
func TestUnlink(t *testing.T) {
	w := grown()
	x := w.tree(t)
	for p, want := range spotErrors {
		checkErr(t, "Unlink of "+p, posix.Unlink(x, p), want)
	}
	for p, want := range map[string]api.Errno{
		"nix": api.ErrNone, "a/nix/": api.ErrNone, "l/x": api.ErrNone, full: api.ErrNone,
		"a": api.ErrIsDir, "a/": api.ErrIsDir, "a/b": api.ErrIsDir, "c": api.ErrIsDir, "a/d": api.ErrIsDir, "top/a/.": api.ErrIsDir, "l/../d": api.ErrIsDir,
	} {
		checkErr(t, "Unlink of "+p, posix.Unlink(x, p), want)
	}
	checkUnchanged(t, x, w)
	for p, n := range map[string]int{"f": 9, "top/gone": 8, "ring/": 7, "far": 12, "into": 13, "a/up": 6, "c/l/.": 17, "/a/e": 11, "l/f": 4} {
		checkErr(t, "Unlink of "+p, posix.Unlink(x, p), api.OK)
		checkStat(t, x, posix.Lstat, p, api.Stat{}, api.ErrNone)
		checkErr(t, "Unlink again of "+p, posix.Unlink(x, p), api.ErrNone)
		if x.Kind(n) != 0 {
			t.Errorf("%s is still there", p)
		}
	}
	checkErr(t, "Unlink", posix.Unlink(x, "l"), api.OK)
	checkErr(t, "Unlink", posix.Unlink(x, "top"), api.OK)
	checkList(t, x, "/", api.OK, "a", "c")
	checkList(t, x, "a", api.OK, "b", "d", "new")
	checkList(t, x, "a/b", api.OK)
	checkList(t, x, "c", api.OK)
}

// P9.3: what is renamed is the same node, wherever it goes; what stood there is gone.
func TestRename(t *testing.T) {
	for _, c := range []struct {
		a, b string
		n    int    // what is renamed
		gone int    // what stood there, 0: nothing
		p    string // where it is from then on
	}{
		{"a/b/f", "g", 4, 0, "/g"}, {"l/f", "a/e", 4, 11, "/a/e"}, {"a/b/f", "l/g", 4, 0, "/a/b/g"}, {"top/a/e/", "c/l/e", 11, 0, "/a/d/e"}, {"a/e", "l/../" + full, 11, 0, "/a/" + full},
		// Directories.
		{"a", "c/a", 2, 0, "/c/a"}, {"c", "a/d", 10, 15, "/a/d"}, {"a/d", "l/d/", 15, 0, "/a/b/d"}, {"c", "c2", 10, 0, "/c2"}, {"l/../b", "top/b/.", 3, 0, "/b"},
		// Links themselves, at both ends.
		{"l", "c/k", 5, 0, "/c/k"}, {"gone", "l", 8, 5, "/l"}, {"ring", "a/up", 7, 6, "/a/up"}, {"a/b/f", "gone", 4, 8, "/gone"}, {"a/e", "top", 11, 14, "/top"}, {"f", "a/b/f", 9, 4, "/a/b/f"}, {"l", "a/b/f", 5, 4, "/a/b/f"}, {"far", "into", 12, 13, "/into"},
		// To where it is.
		{"a", "a", 2, 0, "/a"}, {"a/b", "/a/./b/", 3, 0, "/a/b"}, {"f", "top/f", 9, 0, "/f"}, {"a/b/f", "l/f", 4, 0, "/a/b/f"},
	} {
		x := grown().tree(t)
		was := api.Stat{Node: c.n, Kind: x.Kind(c.n), Size: len(x.Data(c.n)) + len(x.List(c.n))}
		data, list := x.Data(c.n), x.List(c.n)
		checkErr(t, "Rename of "+c.a+" to "+c.b, posix.Rename(x, c.a, c.b), api.OK)
		checkStat(t, x, posix.Lstat, c.p, was, api.OK)
		if x.Data(c.n) != data || !slices.Equal(x.List(c.n), list) {
			t.Errorf("Rename of %s to %s: it has something else", c.a, c.b)
		}
		nodes := 17
		if c.gone != 0 {
			nodes--
		}
		if x.Len() != nodes || x.Kind(c.gone) != 0 {
			t.Errorf("Rename of %s to %s: %d nodes", c.a, c.b, x.Len())
		}
	}
}

// P9.3: errors of Spot of the one path, then of the other one, then of Move.
func TestRenameErrors(t *testing.T) {
	w := grown()
	x := w.tree(t)
	for a, want := range spotErrors {
		for b := range spotErrors {
			checkErr(t, "Rename of "+a+" to "+b, posix.Rename(x, a, b), want)
		}
		for _, b := range []string{"a", "nix", "new", "a/b/x"} {
			checkErr(t, "Rename of "+a+" to "+b, posix.Rename(x, a, b), want)
			checkErr(t, "Rename of "+b+" to "+a, posix.Rename(x, b, a), want)
		}
	}
	for _, c := range []struct {
		a, b string
		want api.Errno
	}{
		{"nix", "new", api.ErrNone}, {"nix", "nix", api.ErrNone}, {"a/nix", "a", api.ErrNone}, {"l/x", "a/b", api.ErrNone},
		{"a", "a/x", api.ErrInside}, {"a", "a/b/x", api.ErrInside}, {"a", "l/x", api.ErrInside}, {"a", "a/b", api.ErrInside}, {"a", "a/a", api.ErrInside}, {"a", "a/b/f", api.ErrInside}, {"a/b", "l/f", api.ErrInside}, {"a/b", "a/up/b", api.ErrInside}, {"c", "top/c/l", api.ErrInside},
		{"a/b/f", "c", api.ErrIsDir}, {"l", "a", api.ErrIsDir}, {"l", "a/b", api.ErrIsDir}, {"a/e", "a/d", api.ErrIsDir}, {"gone", "a/d/", api.ErrIsDir}, {"a/b/f", "a/b", api.ErrIsDir},
		{"c", "a/e", api.ErrNotDir}, {"c", "l", api.ErrNotDir}, {"a/d", "c/l", api.ErrNotDir}, {"a", "gone", api.ErrNotDir}, {"a/b", "f", api.ErrNotDir}, {"a", "top", api.ErrNotDir},
		{"c", "a", api.ErrNotEmpty}, {"a", "c", api.ErrNotEmpty}, {"a/d", "c/", api.ErrNotEmpty}, {"a/b", "a", api.ErrNotEmpty}, {"a/d", "l/../b", api.ErrNotEmpty},
	} {
		checkErr(t, "Rename of "+c.a+" to "+c.b, posix.Rename(x, c.a, c.b), c.want)
	}
	checkUnchanged(t, x, w)
}

// P9.3: files that are there have other bytes, and are the same nodes; new ones are made.
func TestWrite(t *testing.T) {
	x := grown().tree(t)
	for _, p := range []string{"a/b/f", "l/f", "f", "top/a/up/f", "/a/b/f/", "f/."} {
		for _, data := range []string{"", p, "\x00\xff\n", big} {
			checkErr(t, "Write of "+p, posix.Write(x, p, data), api.OK)
			checkText(t, x, posix.Read, "a/b/f", data, api.OK)
			checkStat(t, x, posix.Lstat, "a/b/f", api.Stat{Node: 4, Kind: api.File, Size: len(data)}, api.OK)
		}
	}
	checkText(t, x, posix.Readlink, "f", "l/./f/", api.OK)
	for i, p := range []string{"new", "/a/new2", "l/x", "a/up/y/", "top/c/z/.", "c/l/w", "a/" + full, "c/\xff\n "} {
		data := []string{p, "", big}[i%3]
		checkErr(t, "Write of "+p, posix.Write(x, p, data), api.OK)
		checkStat(t, x, posix.Lstat, p, api.Stat{Node: 18 + i, Kind: api.File, Size: len(data)}, api.OK)
		checkText(t, x, posix.Read, p, data, api.OK)
		checkErr(t, "Write again of "+p, posix.Write(x, p, "again"), api.OK)
		checkStat(t, x, posix.Lstat, p, api.Stat{Node: 18 + i, Kind: api.File, Size: 5}, api.OK)
	}
	checkList(t, x, "a/b", api.OK, "f", "x", "y")
	checkList(t, x, "a/d", api.OK, "w")
	// What a link leads to is there at last.
	checkErr(t, "Write", posix.Write(x, "nix", "at last"), api.OK)
	checkText(t, x, posix.Read, "gone", "at last", api.OK)
	checkErr(t, "Write", posix.Write(x, "gone", "more"), api.OK)
	checkText(t, x, posix.Read, "nix", "more", api.OK)
	checkText(t, x, posix.Readlink, "gone", "nix", api.OK)
}

// P9.3: the errors of Write; too many bytes are told behind all others but that there is no room.
func TestWriteErrors(t *testing.T) {
	w := grown()
	x := w.tree(t)
	for _, data := range []string{"", "x", big + "d"} {
		for p, want := range map[string]api.Errno{
			"/": api.ErrIsDir, ".": api.ErrIsDir, "..": api.ErrIsDir, "a": api.ErrIsDir, "a/b/": api.ErrIsDir, "l": api.ErrIsDir, "a/up": api.ErrIsDir, "top": api.ErrIsDir, "c/l": api.ErrIsDir, "a/..": api.ErrIsDir, "a/d": api.ErrIsDir,
			// Links that lead nowhere: nothing is made through them.
			"gone": api.ErrNone, "gone/": api.ErrNone, "gone/.": api.ErrNone, "far": api.ErrNone, "a/new": api.ErrNone, "l/../new": api.ErrNone, "top/gone": api.ErrNone,
			// Errors of Spot, where Find's is ErrNone.
			"": api.ErrNone, "nix/x": api.ErrNone, "gone/x": api.ErrNone, "gone/../x": api.ErrNone, "nix/" + over: api.ErrNone, "nix/..": api.ErrExist, "a/nix/..": api.ErrExist, "gone/..": api.ErrExist, "far/../.": api.ErrExist, "nix/x/..": api.ErrExist,
			// Other errors of Find.
			"ring": api.ErrLoop, "ring/x": api.ErrLoop, "ring/..": api.ErrLoop, "into": api.ErrNotDir, "into/x": api.ErrNotDir, "a/b/f/x": api.ErrNotDir, "a/b/f/..": api.ErrNotDir, "f/x": api.ErrNotDir, over: api.ErrName, "a/\x00": api.ErrName, "a/" + over + "/..": api.ErrName, tooLong: api.ErrName, "nix" + strings.Repeat("/", api.MaxPath): api.ErrName,
		} {
			checkErr(t, "Write of "+p, posix.Write(x, p, data), want)
		}
	}
	for _, p := range []string{"a/b/f", "f", "l/f/", "a/e", "nix", "a/nix", "l/x/."} {
		checkErr(t, "Write of too much to "+p, posix.Write(x, p, big+"d"), api.ErrRange)
	}
	checkUnchanged(t, x, w)
}

// P9.2, P9.3: MaxNodes nodes, and one more.
func TestFull(t *testing.T) {
	w := filled()
	x := w.tree(t)
	for _, p := range []string{"new", "l/new"} {
		checkErr(t, "Mkdir of "+p, posix.Mkdir(x, p), api.ErrSpace)
		checkErr(t, "Symlink at "+p, posix.Symlink(x, "a", p), api.ErrSpace)
		checkErr(t, "Symlink of nothing at "+p, posix.Symlink(x, "", p), api.ErrForm)
		checkErr(t, "Symlink of too much at "+p, posix.Symlink(x, big+"d", p), api.ErrRange)
		checkErr(t, "Write of "+p, posix.Write(x, p, "x"), api.ErrSpace)
		checkErr(t, "Write of too much to "+p, posix.Write(x, p, big+"d"), api.ErrRange)
	}
	checkErr(t, "Mkdir", posix.Mkdir(x, "a"), api.ErrExist)
	checkErr(t, "Mkdir", posix.Mkdir(x, "nix/x"), api.ErrNone)
	checkErr(t, "Write", posix.Write(x, "gone", "x"), api.ErrNone)
	checkErr(t, "Write", posix.Write(x, "a", "x"), api.ErrIsDir)
	checkUnchanged(t, x, w)
	// What needs no room is done all the same, and what is taken away makes room.
	checkErr(t, "Write", posix.Write(x, "f", "more"), api.OK)
	checkText(t, x, posix.Read, "a/b/f", "more", api.OK)
	checkErr(t, "Rename", posix.Rename(x, "last", "a/last"), api.OK)
	checkErr(t, "Write", posix.Write(x, "new", "x"), api.ErrSpace)
	checkErr(t, "Unlink", posix.Unlink(x, "a/last"), api.OK)
	checkErr(t, "Write", posix.Write(x, "new", "x"), api.OK)
	checkErr(t, "Mkdir", posix.Mkdir(x, "a/new2"), api.ErrSpace)
	checkErr(t, "Rename", posix.Rename(x, "new", "a/new"), api.OK)
	checkErr(t, "Mkdir", posix.Mkdir(x, "a/new2"), api.OK)
	checkErr(t, "Symlink", posix.Symlink(x, "a", "new"), api.ErrSpace)
}

// P9.1 to P9.3: at MaxPath bytes, and at one more; at MaxHops links, and at one more.
func TestLimits(t *testing.T) {
	w := newWorld()
	w.make("/d", api.Dir, "", api.ErrExist)
	w.make("/d/f", api.File, "x", api.ErrExist)
	w.make("/k0", api.Link, "d", api.ErrExist)
	for i := 1; i <= api.MaxHops; i++ {
		w.make("/k"+strconv.Itoa(i), api.Link, "k"+strconv.Itoa(i-1), api.ErrExist)
	}
	w.make("/d/m", api.Link, "f", api.ErrExist)
	w.make("/d/s", api.Link, ".", api.ErrExist)
	x := w.tree(t)
	slashes := strings.Repeat("/", api.MaxPath-1)
	last := "/k" + strconv.Itoa(api.MaxHops-1) + "/"
	many := "/k" + strconv.Itoa(api.MaxHops) + "/"
	for _, p := range []string{slashes + "d", slashes + "x", slashes + "/d", slashes + "/x", last, many, last + "x", many + "x", last + "s", many + "s", last + "s/x", last + "f", last + "m", many + "f", "/k3/../k9/m", "/k3/../k30/m", "/k3/../k35/m"} {
		for _, c := range asking {
			checkCall(t, c, x, w, p, "")
		}
		for _, c := range changing {
			checkCall(t, c, x.Copy(), w.copy(), p, "d/f")
		}
		for _, s := range []string{"d", "/new", last + "y", many + "y", last + "f", last + "m"} {
			for _, c := range pairing {
				checkCall(t, c, x.Copy(), w.copy(), p, s)
				checkCall(t, c, x.Copy(), w.copy(), s, p)
			}
		}
	}
	checkText(t, x, posix.Read, last+"f", "x", api.OK)
	checkText(t, x, posix.Read, last+"m", "", api.ErrLoop)
	checkText(t, x, posix.Readlink, last+"m", "f", api.OK)
	checkErr(t, "Write", posix.Write(x, last+"m", ""), api.ErrLoop)
	checkErr(t, "Unlink", posix.Unlink(x, last+"m"), api.OK)
	checkErr(t, "Write", posix.Write(x, many+"f", ""), api.ErrLoop)
	checkErr(t, "Mkdir", posix.Mkdir(x, slashes+"x"), api.OK)
	checkErr(t, "Rmdir", posix.Rmdir(x, slashes+"/x"), api.ErrName)
	checkErr(t, "Rename", posix.Rename(x, slashes+"x", slashes+"/y"), api.ErrName)
}

// P9.4: of a nil tree, whatever else.
func TestNil(t *testing.T) {
	for _, p := range anyPaths {
		for _, s := range append([]string{big + "d"}, anyPaths...) {
			for _, c := range slices.Concat(asking, changing, pairing) {
				want := answer{e: api.ErrNil}
				if c.name == "Same" {
					want = answer{}
				}
				if got := c.fast(nil, p, s); got != want {
					t.Errorf("%s of %.80q and %.80q: %v", c.name, p, s, got)
				}
			}
		}
	}
}

// pathsOf answers all paths of 0 to n pieces, with slashes between them, each with a slash ahead.
func pathsOf(pieces []string, n int) []string {
	paths, last := []string{}, []string{""}
	for range n {
		var next []string
		for _, p := range last {
			for _, s := range pieces {
				next = append(next, p+"/"+s)
			}
		}
		paths, last = append(paths, next...), next
	}
	return paths
}

// P9.1 to P9.3, P9.5: of all short paths in a tree of all kinds each call answers and does what the slow one does.
func TestLikeReference(t *testing.T) {
	w := grown()
	x := w.tree(t)
	pieces := []string{"", ".", "..", "a", "b", "c", "d", "e", "f", "l", "up", "ring", "gone", "far", "into", "top", "new", "nix", over, "\x00"}
	for _, p := range pathsOf(pieces, 3) {
		for _, c := range asking {
			if got, want := c.fast(x, p, ""), c.slow(w, p, ""); got != want {
				t.Fatalf("%s(%.80q): %v, not %v", c.name, p, got, want)
			}
		}
	}
	checkUnchanged(t, x, w)
	for _, p := range append(pathsOf(pieces, 2), pathsOf([]string{"..", "a", "b", "d", "f", "l", "up", "nix"}, 3)...) {
		for _, q := range []string{p, p[1:]} {
			for _, c := range changing {
				checkCall(t, c, x.Copy(), w.copy(), q, "text")
			}
		}
		checkCall(t, changing[1], x.Copy(), w.copy(), p, "")
	}
}

// P9.1, P9.3, P9.5: of all pairs of short paths, too.
func TestPairsLikeReference(t *testing.T) {
	w := grown()
	x := w.tree(t)
	paths := append(pathsOf([]string{"", "..", "a", "c", "f", "l", "ring", "gone", "into", "top", "nix", over}, 1), pathsOf([]string{"a", "b", "c", "d", "e", "f", "l", "up", "nix", ".."}, 2)...)
	paths = append(paths, "a/b/f", "l/f/", "c/l/x", "a/b/nix", "top/a/b/f", "a/up/f", "")
	for _, p := range paths {
		for _, s := range paths {
			for _, c := range pairing {
				checkCall(t, c, x.Copy(), w.copy(), p, s)
			}
		}
	}
}

// P9.1 to P9.3, P9.5: rows of calls by chance, one behind the other, from an empty tree on.
func TestByChance(t *testing.T) {
	// Numbers that jump about, the same ones each time.
	turn := 1
	next := func(n int) int {
		turn = turn * 48271 % (1<<31 - 1)
		return turn / 7 % n
	}
	pieces := []string{"a", "b", "c", "a", "b", "c", "d", "..", ".", "", "e"}
	text := func(most int) string {
		l := make([]string, 1+next(most))
		for i := range l {
			l[i] = pieces[next(len(pieces))]
		}
		return []string{"", "/"}[next(2)] + strings.Join(l, "/")
	}
	calls := slices.Concat(asking, changing, changing, changing, pairing, pairing, pairing)
	for range 200 {
		x, w := tree.New(), newWorld()
		for range 300 {
			checkCall(t, calls[next(len(calls))], x, w, text(5), text(4))
		}
	}
}

// P9.5: what is made is there, what is taken away isn't, and a file that is renamed is the same node.
func TestItFollows(t *testing.T) {
	w := grown()
	for _, p := range pathsOf([]string{"a", "b", "c", "d", "e", "f", "l", "up", "gone", "nix", "new"}, 3) {
		for _, c := range changing {
			x := w.tree(t)
			if c.fast(x, p, "x").e != api.OK {
				checkUnchanged(t, x, w)
				continue
			}
			kind := map[string]int{"Mkdir": api.Dir, "Symlink": api.Link, "Write": api.File}[c.name]
			s, e := posix.Lstat(x, p)
			if c.name == "Write" {
				s, e = posix.Stat(x, p)
			}
			if s.Kind != kind || e == api.OK != (kind != 0) || kind == 0 && e != api.ErrNone {
				t.Errorf("%s(%q): then %v, %v", c.name, p, s, e)
			}
		}
		x := w.tree(t)
		was, _ := posix.Lstat(x, p)
		if posix.Rename(x, p, "top/moved") == api.OK {
			checkStat(t, x, posix.Lstat, "/moved", was, api.OK)
			checkStat(t, x, posix.Lstat, p, api.Stat{}, api.ErrNone)
		}
	}
}
