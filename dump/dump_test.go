package dump_test

import (
	"fmt"
	"math/rand"
	gopath "path"
	"slices"
	"strconv"
	"strings"
	"testing"

	"linhay/api"
	"linhay/dump"
	"linhay/posix"
	"linhay/rows"
	"linhay/seek"
	"linhay/tree"
)

var (
	full = strings.Repeat("n", api.MaxName)
	over = full + "n"
	word = strings.Repeat("w", api.MaxWord)
	big  = strings.Repeat("d", api.MaxFile)
	// A clean path of right names, and of MaxPath bytes.
	longest = strings.Repeat("/"+full[1:], api.MaxPath/api.MaxName)
	tooLong = "/a" + strings.Repeat("/", api.MaxPath)
	// Paths of all kinds, for calls that answer the same of each.
	anyPaths = []string{"", "/", ".", "..", "a", "/a", "/a/b", "a/b/", "l", "f", "nix", "nix/x", "a\x00", "/" + over, tooLong}
	// Rows with one thing that may not be.
	wrongRows = []api.Row{
		{}, {Path: "/x"}, dir("/"), dir(""), dir("x"), dir("x/y"), dir("/x/"), dir("//x"), dir("/x//y"), dir("/./x"), dir("/x/."), dir("/x/.."), dir("/../x"), dir("/.."), dir("/."), dir("."), dir("/" + over), dir(longest + "n"), dir("/x\n"), dir("/x\x00"), {Path: "/x", Kind: api.Dir, Data: "x"},
		file("/", "x"), file("", ""), file("x", "x"), file("/x/", ""), file("/x", "a\nb"), file("/x", "\x00"), file("/x", word+"w"), file("/x", big), file("/"+over, ""), file("/x\n", ""),
		link("/", "x"), link("x", "x"), link("/x", ""), link("/x", "\n"), link("/x", "a\x00"), link("/x", word+"w"), link("/x/", "x"), link("/"+over, "x"),
		{Path: "/x", Kind: 4}, {Path: "/x", Kind: -1}, {Path: "/x", Kind: 'd'}, {Path: "/x", Kind: 4, Data: "x"}, {Path: "/x", Kind: 256 + api.File, Data: "x"},
	}
	// What the tree of all kinds has, in order.
	allKinds = []api.Row{
		dir("/a"), dir("/a/b"), file("/a/b/f", "x"), link("/a/b/k", ".."), dir("/a/c"), link("/a/up", "../l"), link("/a-", "a/b"), file("/a.b", ""), dir("/e"), file("/f", "one"), link("/gone", "nix/nix"), link("/l", "a"), link("/loop", "loop"), link("/m", "/a/b/f"), link("/over", over), link("/r", "/"), link("/to", "f/x"), link("/z", "a-/"),
	}
)

// dir answers a row.
func dir(p string) api.Row { return api.Row{Path: p, Kind: api.Dir} }

// file answers a row.
func file(p, data string) api.Row { return api.Row{Path: p, Kind: api.File, Data: data} }

// link answers a row.
func link(p, text string) api.Row { return api.Row{Path: p, Kind: api.Link, Data: text} }

// plant answers a tree with rows' nodes, Right ones or not, each put by its number where its path says.
func plant(t *testing.T, l ...api.Row) *tree.Tree {
	t.Helper()
	x := tree.New()
	nodes := map[string]int{"/": tree.Root}
	for _, r := range l {
		up, name := gopath.Split(r.Path)
		n, e := x.Put(nodes[gopath.Clean(up)], name, r.Kind, r.Data)
		if e != api.OK {
			t.Fatalf("Put of %s: %v", told(r), e)
		}
		nodes[r.Path] = n
	}
	return x
}

// told answers rows as a short text.
func told(l ...api.Row) string {
	s := ""
	for _, x := range l {
		s += fmt.Sprintf("{%.80q %d %.80q}", x.Path, x.Kind, x.Data)
		if len(s) > 1000 {
			return s[:1000]
		}
	}
	return s
}

// state answers all that a tree has, a text for each number, and the number that comes next.
func state(x *tree.Tree) []string {
	y := x.Copy()
	for y.Len() >= api.MaxNodes {
		y.Cut(tree.Root, y.List(tree.Root)[0].Name)
	}
	next, _ := y.Put(tree.Root, "the next one", api.Dir, "")
	l := make([]string, next)
	for n := range l {
		if x.Kind(n) == 0 {
			continue
		}
		l[n] = fmt.Sprint(x.Kind(n), x.Up(n), x.List(n)) + x.Data(n)
	}
	return append(l, strconv.Itoa(next))
}

// slowRows looks at all numbers for the nodes below the one to which a path leads.
func slowRows(x *tree.Tree, p string) ([]api.Row, api.Errno) {
	top, e := seek.Find(x, p, true)
	if e != api.OK {
		return nil, e
	}
	var l []api.Row
	for n, found := 1, 0; found < x.Len(); n++ {
		if x.Kind(n) == 0 {
			continue
		}
		found++
		up := n
		for up != tree.Root && (up == n || up != top) {
			up = x.Up(up)
		}
		if up == top && n != top {
			at, _ := seek.Real(x, n)
			l = append(l, api.Row{Path: at, Kind: x.Kind(n), Data: x.Data(n)})
		}
	}
	return rows.Sort(l), api.OK
}

// checkRows holds what Rows and Paths answer, and of / All, against what is asked for.
func checkRows(t *testing.T, x *tree.Tree, p string, want []api.Row, wantErr api.Errno) {
	t.Helper()
	got, e := dump.Rows(x, p)
	if !slices.Equal(got, want) || e != wantErr {
		t.Errorf("Rows(%.80q) = %s, %v, not %s, %v", p, told(got...), e, told(want...), wantErr)
	}
	var wantPaths []string
	for _, r := range want {
		wantPaths = append(wantPaths, r.Path)
	}
	paths, e := dump.Paths(x, p)
	if !slices.Equal(paths, wantPaths) || e != wantErr {
		t.Errorf("Paths(%.80q) = %d of %.80q, %v, not %d, %v", p, len(paths), paths, e, len(wantPaths), wantErr)
	}
	if p != "/" {
		return
	}
	if all := dump.All(x); !slices.Equal(all, want) {
		t.Errorf("All = %s, not %s", told(all...), told(want...))
	}
}

// checkAll holds all rows of a tree against what is asked for.
func checkAll(t *testing.T, x *tree.Tree, want ...api.Row) {
	t.Helper()
	checkRows(t, x, "/", want, api.OK)
}

// slowPut is the chapter's word of one row.
func slowPut(x *tree.Tree, r api.Row) api.Errno {
	if !rows.Right(r) {
		return api.ErrArg
	}
	if _, e := posix.Lstat(x, r.Path); e == api.OK {
		return api.ErrExist
	}
	calls := map[int]func() api.Errno{
		api.Dir:  func() api.Errno { return posix.Mkdir(x, r.Path) },
		api.File: func() api.Errno { return posix.Write(x, r.Path, r.Data) },
		api.Link: func() api.Errno { return posix.Symlink(x, r.Data, r.Path) },
	}
	return calls[r.Kind]()
}

// slowLay makes rows up to the first one that has an error.
func slowLay(x *tree.Tree, l []api.Row) (int, api.Errno) {
	n, e := 0, api.OK
	for e == api.OK && n < len(l) {
		if e = slowPut(x, l[n]); e == api.OK {
			n++
		}
	}
	return n, e
}

// checkLay lays rows on copies of a tree, and holds what comes of it against a slow Lay; of a new tree it holds Make, too.
func checkLay(t *testing.T, x *tree.Tree, l []api.Row) {
	t.Helper()
	a, b, was := x.Copy(), x.Copy(), slices.Clone(l)
	n, e := dump.Lay(a, l)
	wantN, wantErr := slowLay(b, l)
	if n != wantN || e != wantErr {
		t.Errorf("Lay(%s) = %d, %v, not %d, %v", told(l...), n, e, wantN, wantErr)
	}
	if got, want := state(a), state(b); !slices.Equal(got, want) {
		t.Errorf("Lay(%s) has made %.80q, not %.80q", told(l...), got, want)
	}
	if !slices.Equal(l, was) {
		t.Errorf("Lay has made %s of %s", told(l...), told(was...))
	}
	if slices.Equal(state(x), state(tree.New())) {
		checkMake(t, l, b, wantErr)
	}
}

// checkMake holds what Make answers against the tree that is asked for.
func checkMake(t *testing.T, l []api.Row, want *tree.Tree, wantErr api.Errno) {
	t.Helper()
	was := slices.Clone(l)
	x, e := dump.Make(l)
	if e != wantErr || (x == nil) != (e != api.OK) {
		t.Errorf("Make(%s): nil %v, %v, not %v", told(l...), x == nil, e, wantErr)
	} else if x != nil && !slices.Equal(state(x), state(want)) {
		t.Errorf("Make(%s) has made %.80q", told(l...), state(x))
	}
	if !slices.Equal(l, was) {
		t.Errorf("Make has made %s of %s", told(l...), told(was...))
	}
}

// P12.1: of each path where it leads, and the Real paths from there on.
func TestRows(t *testing.T) {
	x := plant(t, allKinds...)
	checkAll(t, x, allKinds...)
	for _, p := range []string{"/", ".", "..", "//", "a/..", "a/../..", "r", "r/", "r/r", "e/..", "a/b/k/..", "l/..", "z/../.."} {
		checkRows(t, x, p, allKinds, api.OK)
	}
	for _, p := range []string{"a", "/a", "/a/", "./a/.", "../a", "//a//", "l", "/l/", "r/a", "r/l", "a/b/..", "a/b/k", "a-/k", "a/up", "l/up/up", "z/k/b/.."} {
		checkRows(t, x, p, allKinds[1:6], api.OK)
	}
	for _, p := range []string{"a/b", "/a/b/", "a-", "a-/", "z", "z/.", "l/b", "a/up/b", "a-/k/b"} {
		checkRows(t, x, p, allKinds[2:4], api.OK)
	}
	// No names, or a file.
	for _, p := range []string{"e", "/e/", "a/c", "l/c", "z/../c", "f", "/f", "f/", "f/.", "a.b", "a/b/f", "a-/f", "m", "r/m"} {
		checkRows(t, x, p, nil, api.OK)
	}
}

// P12.1: Find's errors.
func TestRowsErrors(t *testing.T) {
	x := plant(t, allKinds...)
	for want, l := range map[api.Errno][]string{
		api.ErrNone:   {"", "nix", "/a/nix", "nix/..", "gone", "gone/", "a/b/x", "e/x", "\n", "A"},
		api.ErrName:   {tooLong, longest + "/n", over, "/a/" + over, "over", "over/x", "a\x00", "/\x00", full + "\x00"},
		api.ErrNotDir: {"f/x", "f/..", "a/b/f/x", "m/x", "to", "f/" + over, "a.b/a"},
		api.ErrLoop:   {"loop", "loop/", "loop/x", "loop/..", "r/loop"},
	} {
		for _, p := range l {
			checkRows(t, x, p, nil, want)
		}
	}
}

// P12.1: the last of MaxHops links is followed, and no other one.
func TestRowsHops(t *testing.T) {
	l := []api.Row{dir("/d"), dir("/d/x"), link("/l0", "d")}
	for i := range api.MaxHops {
		l = append(l, link("/l"+strconv.Itoa(i+1), "l"+strconv.Itoa(i)))
	}
	x := plant(t, l...)
	checkRows(t, x, "l"+strconv.Itoa(api.MaxHops-1), l[1:2], api.OK)
	checkRows(t, x, "l"+strconv.Itoa(api.MaxHops), nil, api.ErrLoop)
}

// P12.1: in order part by part, however the nodes came there.
func TestRowsOrder(t *testing.T) {
	for _, want := range [][]string{
		{"/a", "/a/b", "/a-"}, {"/a", "/a/b", "/a/b/c", "/a/c", "/a b", "/a.b", "/ab", "/b", "/b/a"}, {"/1", "/10", "/2", "/a1", "/a10", "/a2"}, {"/A", "/B", "/a", "/b"},
		{"/a", "/a/\x01", "/a/\n", "/a/a", "/a/\x80", "/a/\xff", "/a\x01", "/a\x01/a", "/a ", "/a!", "/a-", "/a.", "/a0", "/aa", "/a\x7f", "/a\xff", "/z", "/\u00e4", "/\u4e2f", "/\xff"},
		{"/...", "/.../a", "/..a", "/..a/b", "/.a", "/.b"}, {"/ ", "/ /a", "/ -", "/!"}, {"/" + full[1:], "/" + full[1:] + "/a", "/" + full},
	} {
		var l []api.Row
		for _, p := range want {
			l = append(l, dir(p))
		}
		checkAll(t, plant(t, l...), l...)
		// The other way round each directory is moved to its own from where it was put first.
		x := tree.New()
		nodes := map[string]int{"/": tree.Root}
		for i, r := range l {
			nodes[r.Path], _ = x.Put(tree.Root, strconv.Itoa(1000+i), api.Dir, "")
		}
		for i := len(l) - 1; i >= 0; i-- {
			up, name := gopath.Split(l[i].Path)
			if e := x.Move(tree.Root, strconv.Itoa(1000+i), nodes[gopath.Clean(up)], name); e != api.OK {
				t.Fatal(e)
			}
		}
		checkAll(t, x, l...)
	}
}

// P12.1: whatever stands there, rows that aren't Right among them.
func TestRowsNotRight(t *testing.T) {
	l := []api.Row{
		dir("/\n"), file("/\n/\n", "\n"), file("/a", big), link("/b", big), file("/c", "\x00\n\xff"), link("/d", "\n\x00"), file("/e", word+"w"), link("/f", over),
	}
	x := plant(t, l...)
	checkAll(t, x, l...)
	checkRows(t, x, "\n", l[1:2], api.OK)
}

// P12.1: Real paths that are too long to be gone.
func TestRowsLongPaths(t *testing.T) {
	var l []api.Row
	deep := ""
	for range 2*len(longest)/api.MaxName + 1 {
		deep += "/" + full[1:]
		l = append(l, dir(deep))
	}
	n := len(l)
	l = append(l, file(deep+"/f", "x"), link(deep+"-", "x"))
	links := []api.Row{link("/l", deep), link("/m", longest)}
	x := plant(t, append(links, l...)...)
	checkAll(t, x, append(links, l...)...)
	checkRows(t, x, longest, l[len(longest)/api.MaxName:], api.OK)
	checkRows(t, x, "m", l[len(longest)/api.MaxName:], api.OK)
	checkRows(t, x, "l", l[n:n+1], api.OK)
	checkRows(t, x, "l/..", l[n-1:], api.OK)
	checkRows(t, x, deep, nil, api.ErrName)
}

// P12.1: what was cut isn't there, what was moved or set is told anew.
func TestRowsAfterChanges(t *testing.T) {
	x := tree.New()
	checkAll(t, x)
	a, _ := x.Put(tree.Root, "a", api.Dir, "")
	f, _ := x.Put(a, "f", api.File, "x")
	checkAll(t, x, dir("/a"), file("/a/f", "x"))
	x.Set(f, "y")
	x.Move(a, "f", tree.Root, "g")
	checkAll(t, x, dir("/a"), file("/g", "y"))
	x.Move(tree.Root, "a", tree.Root, "z")
	x.Put(a, "l", api.Link, "g")
	checkAll(t, x, file("/g", "y"), dir("/z"), link("/z/l", "g"))
	x.Move(tree.Root, "g", a, "l")
	checkAll(t, x, dir("/z"), file("/z/l", "y"))
	x.Cut(a, "l")
	checkAll(t, x, dir("/z"))
	x.Cut(tree.Root, "z")
	checkAll(t, x)
}

// P12.1: of all short paths in a tree of all kinds what a slow reference answers.
func TestRowsLikeReference(t *testing.T) {
	x := plant(t, dir("/a"), dir("/a/a"), file("/a/a/f", "x"), link("/a/l", "../a/a/.."), link("/a.", "a"), file("/f", ""), link("/l", "/a/l"), link("/ll", "ll"), dir("/aa"), link("/a/.a", "/"))
	for _, p := range textsOf("/.alf", 6) {
		want, wantErr := slowRows(x, p)
		checkRows(t, x, p, want, wantErr)
	}
}

// P12.1, P12.5: of trees by chance what a slow reference answers, and the same tree again.
func TestRowsByChance(t *testing.T) {
	r := rand.New(rand.NewSource(12))
	for range 300 {
		x := chance(r, r.Intn(300))
		was := state(x)
		want, _ := slowRows(x, "/")
		checkAll(t, x, want...)
		for range 20 {
			p := somePath(r)
			want, wantErr := slowRows(x, p)
			checkRows(t, x, p, want, wantErr)
		}
		if got := state(x); !slices.Equal(got, was) {
			t.Errorf("of %.300q Rows has made %.300q", was, got)
		}
		checkBack(t, x)
	}
}

// someNames are names that stand close to one another.
var someNames = []string{"a", "b", "a-", "a.b", "ab", "a b", "\xff", "-", "\x01", "..."}

// somePath answers a short path by chance.
func somePath(r *rand.Rand) string {
	p := ""
	for range 1 + r.Intn(4) {
		p += "/" + append(someNames, "..", ".", "")[r.Intn(len(someNames)+3)]
	}
	return p
}

// chance answers a tree of Right rows put together by chance, with moves and cuts.
func chance(r *rand.Rand, n int) *tree.Tree {
	x := tree.New()
	for range n {
		p := somePath(r)
		switch r.Intn(7) {
		case 0, 1, 2:
			posix.Mkdir(x, p)
		case 3:
			posix.Write(x, p, []string{"", "x", "x y", "'", word}[r.Intn(5)])
		case 4:
			posix.Symlink(x, somePath(r)[r.Intn(2):]+"x", p)
			posix.Symlink(x, somePath(r), somePath(r))
		case 5:
			posix.Rename(x, p, somePath(r))
		case 6:
			posix.Unlink(x, p)
			posix.Rmdir(x, p)
		}
	}
	return x
}

// R3, R4: what is answered is new memory, and asking changes nothing.
func TestRowsIsNew(t *testing.T) {
	x := plant(t, allKinds...)
	was := state(x)
	for _, p := range []string{"/", "/a", "z"} {
		a, _ := dump.Rows(x, p)
		b, _ := dump.Rows(x, p)
		c, _ := dump.Paths(x, p)
		d, _ := dump.Paths(x, p)
		for i := range a {
			a[i], c[i] = api.Row{}, ""
		}
		a, c = append(a, dir("/x")), append(c, "/x")
		want, _ := slowRows(x, p)
		if !slices.Equal(b, want) || len(d) != len(b) || d[0] != b[0].Path || len(a) != len(c) {
			t.Errorf("of %q: %s, %q", p, told(b...), d)
		}
		checkRows(t, x, p, want, api.OK)
	}
	all, again := dump.All(x), dump.All(x)
	clear(all)
	if !slices.Equal(again, allKinds) {
		t.Errorf("All: %s", told(again...))
	}
	if got := state(x); !slices.Equal(got, was) {
		t.Errorf("of %q has come %q", was, got)
	}
}

// P12.2: each kind, with what it has, and nothing else.
func TestLay(t *testing.T) {
	l := []api.Row{dir("/d"), file("/d/e", ""), file("/d/f", "x\ty"), link("/d/l", "../d"), link("/l", "nix"), dir("/d/d"), file("/d/d/w", word), link("/"+full, word), dir("/d/" + full[1:]), dir("/\xff"), file("/' '\\", "'")}
	x := tree.New()
	if n, e := dump.Lay(x, l); n != len(l) || e != api.OK {
		t.Fatal(n, e)
	}
	checkAll(t, x, rows.Sort(l)...)
	for i, r := range l {
		if n, e := seek.Find(x, r.Path, false); n != i+2 || e != api.OK {
			t.Errorf("%s is %d, %v", told(r), n, e)
		}
	}
	// More of them, on what is there; and none.
	if n, e := dump.Lay(x, []api.Row{dir("/d/d/x"), link("/d/d/x/y", "z")}); n != 2 || e != api.OK {
		t.Error(n, e)
	}
	was := state(x)
	for _, none := range [][]api.Row{nil, {}} {
		if n, e := dump.Lay(x, none); n != 0 || e != api.OK || !slices.Equal(state(x), was) {
			t.Error(n, e, state(x))
		}
	}
	l = append(l, dir("/d/d/x"), link("/d/d/x/y", "z"))
	checkAll(t, x, rows.Sort(l)...)
}

// P12.2: paths with links on the way lead where they lead.
func TestLayThroughLinks(t *testing.T) {
	x := plant(t, allKinds...)
	l := []api.Row{dir("/l/n"), file("/a-/n", "1"), link("/z/k/n/o", "2"), file("/r/r/n", "3"), dir("/a/up/up/c/n"), link("/new", "e"), file("/new/n", "4")}
	if n, e := dump.Lay(x, l); n != len(l) || e != api.OK {
		t.Fatal(n, e)
	}
	want := append([]api.Row{dir("/a/n"), file("/a/b/n", "1"), link("/a/n/o", "2"), file("/n", "3"), dir("/a/c/n"), link("/new", "e"), file("/e/n", "4")}, allKinds...)
	checkAll(t, x, rows.Sort(want)...)
}

// P12.2: the first error, and what was made ahead of it.
func TestLayErrors(t *testing.T) {
	x := plant(t, allKinds...)
	for want, l := range map[api.Errno][]api.Row{
		api.ErrArg: wrongRows,
		api.ErrExist: {
			dir("/a"), file("/a", ""), link("/a", "x"), dir("/f"), file("/f", "one"), file("/f", "two"), link("/f", "x"), dir("/l"), link("/l", "a"), file("/l", "x"), dir("/a/b"), file("/l/b/f", "y"), dir("/a-/f"), link("/z/k", ".."), dir("/r/a"), file("/r/r", ""), dir("/a/up"), dir("/e"),
			// Links that lead nowhere stand there, too.
			file("/gone", "x"), dir("/gone"), link("/gone", "x"), file("/loop", "x"), link("/loop", "loop"), file("/to", ""), dir("/over"), file("/over", "x"), link("/over", over),
		},
		api.ErrNone:   {dir("/nix/x"), file("/nix/x", ""), link("/nix/x", "x"), file("/a/b/nix/x", "x"), dir("/gone/x"), file("/gone/x", "x"), link("/l/nix/x", "x")},
		api.ErrNotDir: {dir("/f/x"), file("/f/x", ""), link("/f/x", "x"), dir("/f/x/y"), file("/m/x", "x"), link("/a-/f/x", "x"), dir("/to/x"), file("/to/x", "x"), file("/a.b/x", "x")},
		api.ErrLoop:   {dir("/loop/x"), file("/loop/x", "x"), link("/loop/x", "x"), file("/r/loop/x/y", "")},
		api.ErrName:   {dir("/over/x"), file("/over/x", "x"), link("/over/x", "x")},
	} {
		for _, r := range l {
			for _, ahead := range [][]api.Row{nil, {dir("/y")}, {dir("/y"), file("/y/y", "y"), link("/a/y", "y")}} {
				y := x.Copy()
				// What stands behind the error isn't made, nor does it tell its own.
				n, e := dump.Lay(y, slices.Concat(ahead, []api.Row{r, dir("/behind"), {}, dir("/a")}))
				if n != len(ahead) || e != want {
					t.Errorf("Lay of %s: %d, %v, not %d, %v", told(r), n, e, len(ahead), want)
				}
				checkAll(t, y, rows.Sort(slices.Concat(ahead, allKinds))...)
				checkLay(t, x, slices.Concat(ahead, []api.Row{r, dir("/behind")}))
			}
		}
	}
}

// P12.2: a row that isn't Right is one ahead of what stands there, or may not be there.
func TestLayErrorsOrder(t *testing.T) {
	x := plant(t, allKinds...)
	for _, r := range []api.Row{{Path: "/a"}, {Path: "/a", Kind: api.Dir, Data: "x"}, dir("/a/"), dir("//a"), dir("/a/b/.."), file("/f", word+"w"), file("/f", "\n"), link("/l", ""), link("/f/x", ""), file("/nix/x", "\x00"), {Path: "/loop/x", Kind: 9}, dir("/f/" + over), dir("/a\x00")} {
		if n, e := dump.Lay(x, []api.Row{r}); n != 0 || e != api.ErrArg {
			t.Errorf("Lay of %s: %d, %v", told(r), n, e)
		}
	}
	checkAll(t, x, allKinds...)
}

// P12.2: no more than MaxNodes nodes, and what is there is told ahead of that.
func TestLaySpace(t *testing.T) {
	var l []api.Row
	for i := range api.MaxNodes {
		l = append(l, file("/"+strconv.Itoa(10000+i), strconv.Itoa(i)))
	}
	most := l[:api.MaxNodes-1]
	checkMake(t, most, plant(t, most...), api.OK)
	checkMake(t, l, nil, api.ErrSpace)
	for _, r := range []api.Row{dir("/x"), file("/x", "x"), link("/x", "x")} {
		x := plant(t, most[:len(most)-2]...)
		if n, e := dump.Lay(x, append(slices.Clone(most[len(most)-2:]), r, dir("/y"))); n != 2 || e != api.ErrSpace {
			t.Errorf("%s behind the last one: %d, %v", told(r), n, e)
		}
		checkAll(t, x, most...)
		for want, r := range map[api.Errno]api.Row{api.ErrExist: l[0], api.ErrArg: dir("/x/"), api.ErrNone: dir("/x/x"), api.ErrNotDir: file(l[1].Path+"/x", "")} {
			if n, e := dump.Lay(x, []api.Row{r}); n != 0 || e != want {
				t.Errorf("Lay of %s: %d, %v, not %v", told(r), n, e, want)
			}
		}
	}
}

// P12.2: all short lists of rows that stand in one another's way, on trees of all kinds.
func TestLayLikeReference(t *testing.T) {
	few := []api.Row{dir("/a"), file("/a", "x"), link("/a", "b"), dir("/b"), link("/b", "a"), file("/a/c", ""), link("/b/c", ".."), dir("/a/c/b"), dir("/a/"), {Path: "/b", Kind: 7}}
	bases := []*tree.Tree{tree.New(), plant(t, dir("/b"), file("/b/c", "y")), plant(t, link("/a", "b"))}
	for _, l := range listsOf(few, 4) {
		for _, x := range bases {
			checkLay(t, x, l)
		}
	}
}

// P12.2: rows of several calls by chance.
func TestLayByChance(t *testing.T) {
	r := rand.New(rand.NewSource(2))
	for range 2000 {
		x := tree.New()
		if r.Intn(2) == 0 {
			x = chance(r, 60)
		}
		l := make([]api.Row, r.Intn(12))
		for i := range l {
			l[i] = api.Row{Path: "/" + strings.TrimLeft(somePath(r), "/"), Kind: 1 + r.Intn(3)}
			if r.Intn(3) > 0 {
				l[i].Path = "/" + someNames[i%2]
			}
			if l[i].Kind != api.Dir {
				l[i].Data = strings.TrimLeft(somePath(r), "/")
			}
			if i > 0 && r.Intn(2) == 0 {
				l[i].Path = l[i-1].Path + "/" + someNames[r.Intn(3)]
			}
		}
		checkLay(t, x, l)
	}
}

// P12.2: a tree, or nil and the error.
func TestMake(t *testing.T) {
	for _, none := range [][]api.Row{nil, {}} {
		checkMake(t, none, tree.New(), api.OK)
	}
	for _, l := range [][]api.Row{{dir("/a")}, {file("/a", "")}, {file("/a", "x")}, {link("/a", "x")}, allKinds, {dir("/a"), link("/l", "a"), file("/l/f", "x")}, {dir("/b"), dir("/a"), dir("/b/c")}} {
		checkMake(t, l, plantReal(t, l), api.OK)
	}
	for _, r := range wrongRows {
		checkMake(t, []api.Row{r}, nil, api.ErrArg)
		checkMake(t, []api.Row{dir("/y"), r, dir("/y")}, nil, api.ErrArg)
	}
	for want, l := range map[api.Errno][]api.Row{
		api.ErrExist: {dir("/a"), dir("/a"), {}}, api.ErrNone: {dir("/a"), dir("/a/b/c"), dir("/a")}, api.ErrNotDir: {file("/a", ""), file("/a/b", ""), {}}, api.ErrLoop: {link("/a", "a"), dir("/a/b"), {}}, api.ErrName: {link("/a", over), file("/a/b", "x")},
	} {
		checkMake(t, l, nil, want)
	}
	// Each one is a new tree.
	a, _ := dump.Make(allKinds)
	b, _ := dump.Make(allKinds)
	posix.Mkdir(a, "/x")
	checkAll(t, b, allKinds...)
	a, _ = dump.Make(nil)
	b, _ = dump.Make(nil)
	posix.Mkdir(a, "/x")
	checkAll(t, b)
}

// plantReal answers a tree of rows, their links followed, by posix alone.
func plantReal(t *testing.T, l []api.Row) *tree.Tree {
	t.Helper()
	x := tree.New()
	if n, e := slowLay(x, l); n != len(l) || e != api.OK {
		t.Fatalf("%s: %d, %v", told(l...), n, e)
	}
	return x
}

// checkEqual holds what Equal answers, either way round, against what is asked for.
func checkEqual(t *testing.T, a, b *tree.Tree, want bool) {
	t.Helper()
	if dump.Equal(a, b) != want || dump.Equal(b, a) != want {
		t.Errorf("Equal of %s and %s isn't %v, or is it one way round only", told(dump.All(a)...), told(dump.All(b)...), want)
	}
}

// P12.3: one field of one row alone is another one.
func TestEqual(t *testing.T) {
	x := plant(t, allKinds...)
	checkEqual(t, x, x, true)
	checkEqual(t, x, x.Copy(), true)
	checkEqual(t, tree.New(), tree.New(), true)
	checkEqual(t, x, tree.New(), false)
	// Numbers aren't told of, nor in what order the nodes came.
	y := tree.New()
	for _, name := range []string{"x", "y"} {
		posix.Mkdir(y, name)
		posix.Rmdir(y, name)
	}
	for i := len(allKinds) - 1; i >= 0; i-- {
		if strings.LastIndex(allKinds[i].Path, "/") == 0 {
			slowPut(y, allKinds[i])
		}
	}
	slowLay(y, []api.Row{link("/a/up", "../l"), dir("/a/c"), dir("/a/b"), link("/a/b/k", ".."), file("/a/b/f", "x")})
	checkEqual(t, x, y, true)
	for i, r := range allKinds {
		changed := []api.Row{{Path: r.Path + "~", Kind: r.Kind, Data: r.Data}, {Path: r.Path, Kind: r.Kind, Data: r.Data + "~"}, {Path: r.Path, Kind: api.File + api.Link - r.Kind, Data: r.Data}, {Path: r.Path, Kind: api.Dir}, {Path: r.Path, Kind: api.File}}
		for _, c := range changed {
			l := slices.Clone(allKinds)
			if l[i] = c; c == r || !rows.Right(c) || r.Kind == api.Dir && len(l) > i+1 && strings.HasPrefix(l[i+1].Path, r.Path+"/") {
				continue
			}
			checkEqual(t, x, plant(t, l...), false)
		}
		if r.Kind != api.Dir {
			checkEqual(t, x, plant(t, slices.Delete(slices.Clone(allKinds), i, i+1)...), false)
		}
	}
	checkEqual(t, x, plant(t, append(slices.Clip(allKinds), dir("/a/b/z"))...), false)
}

// P12.3: what differs in depth alone, or by kinds that have the same bytes.
func TestEqualShapes(t *testing.T) {
	for _, c := range [][2][]api.Row{
		{{dir("/a")}, {file("/a", "")}}, {{file("/a", "x")}, {link("/a", "x")}}, {{dir("/a")}, {dir("/b")}}, {{dir("/a")}, {dir("/a"), dir("/b")}}, {{dir("/a"), dir("/b")}, {dir("/a"), dir("/a/b")}}, {{dir("/a"), dir("/a/b"), dir("/c")}, {dir("/a"), dir("/a/b"), dir("/a/c")}}, {{dir("/a"), dir("/a/b"), dir("/a/b/c")}, {dir("/a"), dir("/a/b"), dir("/a/c")}}, {{dir("/a"), dir("/a/x"), dir("/b")}, {dir("/a"), dir("/b"), dir("/b/x")}}, {{dir("/a"), file("/a/f", "x"), dir("/b"), file("/b/f", "x")}, {dir("/a"), file("/a/f", "x"), dir("/b"), file("/b/f", "y")}}, {{dir("/a"), file("/a/f", "x")}, {link("/a", "x")}}, {{file("/a", big)}, {file("/a", big[1:]+"e")}}, {{link("/a", "/b")}, {link("/a", "b")}}, {{dir("/\n")}, {dir("/\x01")}},
	} {
		checkEqual(t, plant(t, c[0]...), plant(t, c[1]...), false)
		checkEqual(t, plant(t, c[0]...), plant(t, c[0]...), true)
		checkEqual(t, plant(t, c[1]...), plant(t, c[1]...), true)
	}
}

// P12.3: of all pairs of small trees just those that have the same rows.
func TestEqualLikeReference(t *testing.T) {
	few := []api.Row{dir("/a"), dir("/b"), dir("/a/b"), file("/a/b", ""), link("/b", "x"), file("/b", "x"), dir("/a/b/b")}
	var trees []*tree.Tree
	var dumps [][]api.Row
	for _, l := range listsOf(few, 4) {
		x := tree.New()
		if _, e := slowLay(x, l); e == api.OK {
			trees = append(trees, x)
			all, _ := slowRows(x, "/")
			dumps = append(dumps, all)
		}
	}
	for i, a := range trees {
		for j, b := range trees {
			if want := slices.Equal(dumps[i], dumps[j]); dump.Equal(a, b) != want {
				t.Errorf("Equal of %s and %s isn't %v", told(dumps[i]...), told(dumps[j]...), want)
			}
		}
	}
	r := rand.New(rand.NewSource(3))
	for range 500 {
		a := chance(r, 100)
		b := a.Copy()
		for range r.Intn(3) {
			p := somePath(r)
			posix.Write(b, p, "x")
			posix.Unlink(b, somePath(r))
			posix.Rename(b, p, somePath(r))
		}
		l, _ := slowRows(a, "/")
		m, _ := slowRows(b, "/")
		checkEqual(t, a, b, slices.Equal(l, m))
	}
}

// P12.4: of a nil tree.
func TestNil(t *testing.T) {
	for _, p := range anyPaths {
		checkRows(t, nil, p, nil, api.ErrNil)
	}
	if l := dump.All(nil); len(l) != 0 {
		t.Errorf("All: %s", told(l...))
	}
	for _, l := range [][]api.Row{nil, {}, {dir("/a")}, allKinds, wrongRows} {
		if n, e := dump.Lay(nil, l); n != 0 || e != api.ErrNil {
			t.Errorf("Lay(%s) = %d, %v", told(l...), n, e)
		}
	}
	checkEqual(t, nil, nil, true)
	checkEqual(t, nil, tree.New(), false)
	checkEqual(t, nil, plant(t, dir("/a")), false)
}

// checkBack holds a tree against one that is made of its rows, and against one on which they are laid.
func checkBack(t *testing.T, x *tree.Tree) {
	t.Helper()
	l := dump.All(x)
	y, e := dump.Make(l)
	if e != api.OK {
		t.Fatalf("Make(%s): %v", told(l...), e)
	}
	z := tree.New()
	if n, e := dump.Lay(z, l); n != len(l) || e != api.OK {
		t.Errorf("Lay(%s) = %d, %v", told(l...), n, e)
	}
	checkEqual(t, x, y, true)
	checkEqual(t, y, z, true)
	checkAll(t, y, l...)
}

// P12.5: there and back, if all rows are Right; else Make tells it.
func TestThereAndBack(t *testing.T) {
	checkBack(t, tree.New())
	checkBack(t, plant(t, allKinds...))
	x := tree.New()
	deep := ""
	for i := 1; len(deep)+8 <= api.MaxPath; i++ {
		deep += "/" + word[:7]
		slowLay(x, []api.Row{dir(deep), link(deep[:len(deep)-1]+"l", "a/a"), file(deep[:len(deep)-1]+"f", strconv.Itoa(i))})
	}
	checkBack(t, x)
	for _, r := range []api.Row{file("/f", word+"w"), file("/f", "a\n"), link("/f", "\x00"), dir("/\n"), link("/f", big)} {
		checkMake(t, dump.All(plant(t, dir("/a"), r)), nil, api.ErrArg)
	}
	// A directory below another one's deepest path.
	at, _ := seek.Find(x, deep, false)
	x.Put(at, "x", api.Dir, "")
	checkMake(t, dump.All(x), nil, api.ErrArg)
}

// R1: trees as deep as may be are told, and held against each other, soon.
func TestDeep(t *testing.T) {
	chain := func(name, last string) *tree.Tree {
		x, at := tree.New(), tree.Root
		for range api.MaxNodes - 2 {
			at, _ = x.Put(at, name, api.Dir, "")
		}
		x.Put(at, last, api.File, "x")
		return x
	}
	l := dump.All(chain("a", "f"))
	if n := len(l); n != api.MaxNodes-1 || l[n-1] != file(strings.Repeat("/a", n-1)+"/f", "x") || l[n-2] != dir(strings.Repeat("/a", n-1)) {
		t.Errorf("%d rows: %s", n, told(l...))
	}
	for range 20 {
		checkEqualDeep(t, chain(full, "f"), chain(full, "f"), true)
		checkEqualDeep(t, chain(full, "f"), chain(full, "g"), false)
	}
}

// checkEqualDeep is checkEqual of trees whose paths are too long to be told.
func checkEqualDeep(t *testing.T, a, b *tree.Tree, want bool) {
	t.Helper()
	if dump.Equal(a, b) != want || dump.Equal(b, a) != want {
		t.Errorf("Equal isn't %v, or is it one way round only", want)
	}
}

// textsOf answers all texts of at most n of the letters, bytes; the shorter ones first.
func textsOf(letters string, n int) []string {
	all := []string{""}
	for begin := 0; n > 0; n-- {
		end := len(all)
		for _, s := range all[begin:end] {
			for i := range len(letters) {
				all = append(all, s+letters[i:i+1])
			}
		}
		begin = end
	}
	return all
}

// listsOf answers all lists of at most n of the rows.
func listsOf(few []api.Row, n int) [][]api.Row {
	all := [][]api.Row{nil}
	if n == 0 {
		return all
	}
	for _, l := range listsOf(few, n-1) {
		for _, x := range few {
			all = append(all, append(slices.Clone(l), x))
		}
	}
	return all
}
