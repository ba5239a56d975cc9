package fs_test

import (
	"math"
	"slices"
	"strconv"
	"strings"
	"testing"

	"linhay/api"
	"linhay/fs"
	"linhay/posix"
	"linhay/tree"
)

var (
	full = strings.Repeat("n", api.MaxName)
	over = full + "n"
	big  = strings.Repeat("d", api.MaxFile)
	// Kinds of tasks that there aren't.
	noKinds = []int{0, -1, 7, 8, 9, 64, -6, math.MaxInt, math.MinInt}
	// Errors that a fault may have, beside ErrCrash.
	faultErrors = []api.Errno{api.ErrNil, api.ErrArg, api.ErrNone, api.ErrExist, api.ErrSpace, api.ErrBusy, api.ErrIO, api.ErrMany, 22, 1000, -1, math.MinInt}
)

// change is a task, and the error that is asked for.
type change struct {
	x    api.Task
	want api.Errno
}

// mkdir answers a task.
func mkdir(p string) api.Task { return api.Task{Kind: api.TaskMkdir, Path: p} }

// rmdir answers a task.
func rmdir(p string) api.Task { return api.Task{Kind: api.TaskRmdir, Path: p} }

// link answers a task.
func link(p, text string) api.Task { return api.Task{Kind: api.TaskLink, Path: p, Text: text} }

// unlink answers a task.
func unlink(p string) api.Task { return api.Task{Kind: api.TaskUnlink, Path: p} }

// move answers a task.
func move(a, b string) api.Task { return api.Task{Kind: api.TaskMove, Path: a, Text: b} }

// write answers a task.
func write(p, data string) api.Task { return api.Task{Kind: api.TaskWrite, Path: p, Text: data} }

// grown answers a tree with nodes of all kinds.
func grown(t *testing.T) *tree.Tree {
	t.Helper()
	x := tree.New()
	for _, e := range []api.Errno{
		posix.Mkdir(x, "a"), posix.Mkdir(x, "a/b"), posix.Write(x, "a/b/f", "one"), posix.Symlink(x, "a/b", "l"),
		posix.Symlink(x, "ring", "ring"), posix.Symlink(x, "nix", "gone"), posix.Symlink(x, "l/f", "f"), posix.Mkdir(x, "c"), posix.Write(x, "e", ""),
	} {
		if e != api.OK {
			t.Fatal(e)
		}
	}
	return x
}

// told answers all that a tree has, as a text for each number, and the number that comes next.
func told(x *tree.Tree) []string {
	y := x.Copy()
	for y.Len() >= api.MaxNodes {
		y.Cut(tree.Root, "last")
	}
	next, _ := y.Put(tree.Root, "the next one", api.Dir, "")
	l := make([]string, next+1)
	for n := range next {
		words := []string{strconv.Itoa(x.Kind(n)), x.Data(n), strconv.Itoa(x.Up(n))}
		for _, e := range x.List(n) {
			words = append(words, e.Name, strconv.Itoa(e.Node))
		}
		l[n] = strings.Join(words, "/")
	}
	return l
}

// slowDo does a task by posix alone.
func slowDo(x *tree.Tree, k api.Task) api.Errno {
	switch k.Kind {
	case api.TaskMkdir:
		return posix.Mkdir(x, k.Path)
	case api.TaskRmdir:
		return posix.Rmdir(x, k.Path)
	case api.TaskLink:
		return posix.Symlink(x, k.Text, k.Path)
	case api.TaskUnlink:
		return posix.Unlink(x, k.Path)
	case api.TaskMove:
		return posix.Rename(x, k.Path, k.Text)
	case api.TaskWrite:
		return posix.Write(x, k.Path, k.Text)
	}
	return api.ErrArg
}

// slowFS is a slow FS: it looks for a change's fault among all of them.
type slowFS struct {
	tree   *tree.Tree
	faults []api.Fault
	count  int
	down   bool
}

// do is a slow Do; faulty tells whether a fault, or that everything stopped, kept it from the task.
func (s *slowFS) do(k api.Task) (e api.Errno, faulty bool) {
	if s.down {
		return api.ErrCrash, true
	}
	if k.Kind < api.TaskMkdir || k.Kind > api.TaskWrite {
		return api.ErrArg, false
	}
	s.count++
	for _, x := range s.faults {
		if x.At == s.count && x.Err != api.OK {
			s.down = x.Err == api.ErrCrash
			return x.Err, true
		}
	}
	return slowDo(s.tree, k), false
}

// checkErr holds an error against the one that is asked for.
func checkErr(t *testing.T, call string, got, want api.Errno) {
	t.Helper()
	if got != want {
		t.Errorf("%.200s: %v, not %v", call, got, want)
	}
}

// checkDo does tasks, each with the error that is asked for.
func checkDo(t *testing.T, f *fs.FS, l ...change) {
	t.Helper()
	for i, c := range l {
		if e := f.Do(c.x); e != c.want {
			t.Errorf("%d: Do of %d %.80q %.80q: %v, not %v", i, c.x.Kind, c.x.Path, c.x.Text, e, c.want)
		}
	}
}

// checkState holds how many changes there were, and whether everything stopped, against what is asked for.
func checkState(t *testing.T, f *fs.FS, count int, down bool) {
	t.Helper()
	if f.Count() != count || f.Down() != down {
		t.Errorf("%d changes, down %v, not %d, %v", f.Count(), f.Down(), count, down)
	}
}

// checkAlike holds a tree against another one.
func checkAlike(t *testing.T, x, y *tree.Tree) {
	t.Helper()
	if !slices.Equal(told(x), told(y)) {
		t.Error("the tree is another one")
	}
}

// P10.1, P10.3: an FS has the tree itself, without faults, up, of no changes yet.
func TestNew(t *testing.T) {
	x := grown(t)
	was := x.Copy()
	f := fs.New(x)
	if f.Tree() != x {
		t.Error("it is another tree")
	}
	checkState(t, f, 0, false)
	checkAlike(t, x, was)
	checkDo(t, f, change{mkdir("new"), api.OK})
	if x.Len() != was.Len()+1 || f.Tree() != x {
		t.Error("the tree itself isn't changed")
	}
	// What is changed by others is there.
	posix.Mkdir(x, "by others")
	checkDo(t, f, change{mkdir("by others"), api.ErrExist}, change{rmdir("by others"), api.OK})
	checkState(t, f, 3, false)
}

// P10.1: of a nil tree, a new one, each time another one.
func TestNewOfNil(t *testing.T) {
	f, g := fs.New(nil), fs.New(nil)
	if f.Tree() == nil || f.Tree() == g.Tree() {
		t.Fatal("it isn't a new tree")
	}
	checkAlike(t, f.Tree(), tree.New())
	checkState(t, f, 0, false)
	checkDo(t, f, change{mkdir("a"), api.OK})
	checkState(t, f, 1, false)
	checkState(t, g, 0, false)
	if f.Tree().Len() != 2 || g.Tree().Len() != 1 {
		t.Error("both are one tree")
	}
}

// P10.1: two of one tree count for themselves.
func TestTwoOfOneTree(t *testing.T) {
	x := tree.New()
	f, g := fs.New(x), fs.New(x)
	f.Plan(api.Fault{At: 1, Err: api.ErrCrash})
	checkDo(t, f, change{mkdir("a"), api.ErrCrash})
	checkDo(t, g, change{mkdir("a"), api.OK}, change{mkdir("b"), api.OK})
	checkState(t, f, 1, true)
	checkState(t, g, 2, false)
	f.Up()
	checkDo(t, f, change{mkdir("a"), api.ErrExist})
	checkState(t, g, 2, false)
}

// P10.1: what each kind does, and that its errors are posix's.
func TestDo(t *testing.T) {
	x := grown(t)
	f := fs.New(x)
	l := []change{
		{mkdir("l/d"), api.OK}, {mkdir("l/d"), api.ErrExist}, {mkdir("nix/x"), api.ErrNone}, {mkdir(""), api.ErrNone}, {mkdir(over), api.ErrName}, {mkdir("ring/x"), api.ErrLoop}, {mkdir("f/x"), api.ErrNotDir},
		{rmdir("a/b/d"), api.OK}, {rmdir("a/b/d"), api.ErrNone}, {rmdir("a"), api.ErrNotEmpty}, {rmdir("l"), api.ErrNotDir}, {rmdir("/"), api.ErrExist},
		{link("c/k", "../e"), api.OK}, {link("c/k", "../e"), api.ErrExist}, {link("c/m", ""), api.ErrForm}, {link("c/m", big+"d"), api.ErrRange},
		{write("c/k", "two"), api.OK}, {write("gone", "two"), api.ErrNone}, {write("a", "two"), api.ErrIsDir}, {write("w", big+"d"), api.ErrRange}, {write("w", big), api.OK},
		{unlink("w"), api.OK}, {unlink("w"), api.ErrNone}, {unlink("c"), api.ErrIsDir},
		{move("c/k", "a/k"), api.OK}, {move("c/k", "a/k"), api.ErrNone}, {move("a", "a/b/x"), api.ErrInside}, {move("c", "a"), api.ErrNotEmpty}, {move("c", "e"), api.ErrNotDir}, {move("e", "c"), api.ErrIsDir}, {move("e", "a/e"), api.OK},
	}
	checkDo(t, f, l...)
	checkState(t, f, len(l), false)
	if s, e := posix.Readlink(x, "a/k"); s != "../e" || e != api.OK {
		t.Errorf("the link holds %.80q, %v", s, e)
	}
	if s, e := posix.Read(x, "a/e"); s != "two" || e != api.OK {
		t.Errorf("the file holds %.80q, %v", s, e)
	}
	for p, want := range map[string][]string{"/": {"a", "c", "f", "gone", "l", "ring"}, "a": {"b", "e", "k"}, "a/b": {"f"}, "c": nil} {
		if got, e := posix.List(x, p); !slices.Equal(got, want) || e != api.OK {
			t.Errorf("in %s: %q, %v", p, got, e)
		}
	}
}

// P10.1: a text is nothing to the kinds that have none.
func TestDoWithText(t *testing.T) {
	f := fs.New(grown(t))
	names, _ := posix.List(f.Tree(), "/")
	for _, text := range []string{"a", "a/b/f", "/", "\x00", big + "d"} {
		for _, c := range []change{{mkdir("new"), api.OK}, {rmdir("new"), api.OK}, {write("new", ""), api.OK}, {unlink("new"), api.OK}} {
			if c.x.Kind != api.TaskWrite {
				c.x.Text = text
			}
			checkDo(t, f, c)
		}
	}
	if got, _ := posix.List(f.Tree(), "/"); !slices.Equal(got, names) {
		t.Errorf("there are %q", got)
	}
}

// P10.1: another kind is ErrArg, and no change.
func TestOtherKinds(t *testing.T) {
	x := grown(t)
	was := x.Copy()
	f := fs.New(x)
	for _, k := range noKinds {
		for _, p := range []string{"", "/", "new", "a/b/f", "c", "nix/x", over} {
			checkDo(t, f, change{api.Task{Kind: k, Path: p, Text: "x"}, api.ErrArg})
			checkState(t, f, 0, false)
		}
	}
	checkAlike(t, x, was)
	// The fault waits for a change.
	f.Plan(api.Fault{At: 1, Err: api.ErrIO})
	for _, k := range noKinds {
		checkDo(t, f, change{api.Task{Kind: k, Path: "a"}, api.ErrArg})
	}
	checkDo(t, f, change{mkdir("new"), api.ErrIO}, change{api.Task{}, api.ErrArg}, change{mkdir("new"), api.OK})
	checkState(t, f, 2, false)
}

// P10.1, P10.2: each Do of a kind that there is counts, with an error too, be it a fault's.
func TestCountsErrors(t *testing.T) {
	f := fs.New(nil)
	f.Plan(api.Fault{At: 3, Err: api.ErrIO}, api.Fault{At: 5, Err: api.ErrBusy}, api.Fault{At: 9, Err: api.ErrSpace})
	for i, c := range []change{
		{rmdir("nix"), api.ErrNone}, {mkdir("nix/x"), api.ErrNone}, {mkdir("a"), api.ErrIO}, {mkdir("a"), api.OK}, {unlink("nix"), api.ErrBusy}, {unlink("nix"), api.ErrNone}, {move("nix", "b"), api.ErrNone}, {link("k", ""), api.ErrForm}, {write("a", ""), api.ErrSpace}, {write("a", ""), api.ErrIsDir},
	} {
		checkDo(t, f, c)
		checkState(t, f, i+1, false)
	}
}

// P10.2: a change of any kind that has a fault isn't done, whatever its error would be.
func TestFaultyIsNotDone(t *testing.T) {
	for _, k := range []api.Task{mkdir("new"), rmdir("c"), link("new", "a"), unlink("e"), move("e", "new"), write("e", "more"), write("new", "x"), mkdir("a"), rmdir("a"), unlink("nix"), move("nix", "x"), write("a", ""), link("", "")} {
		for _, want := range append([]api.Errno{api.ErrCrash}, faultErrors...) {
			x := grown(t)
			was := x.Copy()
			f := fs.New(x)
			f.Plan(api.Fault{At: 1, Err: want})
			checkDo(t, f, change{k, want})
			checkState(t, f, 1, want == api.ErrCrash)
			checkAlike(t, x, was)
			f.Up()
			checkDo(t, f, change{k, slowDo(was, k)})
			checkAlike(t, x, was)
		}
	}
}

// P10.2: where the faults are, in whatever order they are told.
func TestPlan(t *testing.T) {
	for at := -2; at <= 6; at++ {
		f := fs.New(nil)
		f.Plan(api.Fault{At: at, Err: api.ErrIO})
		for i := 1; i <= 4; i++ {
			want := api.OK
			if i == at {
				want = api.ErrIO
			}
			checkDo(t, f, change{mkdir("d" + strconv.Itoa(i)), want})
		}
		checkState(t, f, 4, false)
	}
	f := fs.New(nil)
	f.Plan(api.Fault{At: 4, Err: api.ErrIO}, api.Fault{At: math.MaxInt, Err: api.ErrNil}, api.Fault{At: 1, Err: api.ErrSpace}, api.Fault{At: 3, Err: api.ErrBusy}, api.Fault{At: math.MinInt, Err: api.ErrCrash})
	checkDo(t, f, change{mkdir("a"), api.ErrSpace}, change{mkdir("a"), api.OK}, change{mkdir("a"), api.ErrBusy}, change{rmdir("a"), api.ErrIO}, change{mkdir("a"), api.ErrExist})
	checkState(t, f, 5, false)
}

// P10.2: of several faults of one change the first one counts; one that is OK, or below 1, is none.
func TestFirstFault(t *testing.T) {
	ok, io, busy, crash := api.OK, api.ErrIO, api.ErrBusy, api.ErrCrash
	for i, c := range []struct {
		errs []api.Errno
		want api.Errno
	}{
		{[]api.Errno{}, ok}, {[]api.Errno{ok}, ok}, {[]api.Errno{io, busy}, io}, {[]api.Errno{busy, io}, busy}, {[]api.Errno{ok, io, busy}, io}, {[]api.Errno{ok, ok, busy, io}, busy}, {[]api.Errno{io, ok}, io}, {[]api.Errno{io, crash}, io}, {[]api.Errno{crash, io}, crash}, {[]api.Errno{ok, crash, ok}, crash}, {[]api.Errno{-1, crash}, -1},
	} {
		var l []api.Fault
		for _, e := range c.errs {
			l = append(l, api.Fault{At: 2, Err: e}, api.Fault{At: 0, Err: crash}, api.Fault{At: -2, Err: crash}, api.Fault{At: 3, Err: ok})
		}
		f := fs.New(nil)
		f.Plan(l...)
		checkDo(t, f, change{mkdir("a"), ok}, change{mkdir("b"), c.want})
		if f.Down() != (c.want == crash) {
			t.Errorf("%d: down %v", i, f.Down())
		}
		if !f.Down() {
			checkDo(t, f, change{mkdir("c"), ok})
		}
	}
}

// P10.2: a plan takes the place of the one ahead of it, and changes are counted from 1 on again.
func TestPlanAgain(t *testing.T) {
	f := fs.New(nil)
	f.Plan(api.Fault{At: 1, Err: api.ErrIO}, api.Fault{At: 3, Err: api.ErrIO})
	checkDo(t, f, change{mkdir("a"), api.ErrIO}, change{mkdir("a"), api.OK})
	f.Plan(api.Fault{At: 2, Err: api.ErrBusy})
	checkState(t, f, 0, false)
	checkDo(t, f, change{mkdir("b"), api.OK}, change{mkdir("c"), api.ErrBusy}, change{mkdir("c"), api.OK})
	checkState(t, f, 3, false)
	f.Plan(api.Fault{At: 1, Err: api.ErrSpace})
	f.Plan()
	checkState(t, f, 0, false)
	checkDo(t, f, change{mkdir("d"), api.OK}, change{mkdir("e"), api.OK})
	f.Plan(api.Fault{At: 1, Err: api.OK})
	checkState(t, f, 0, false)
	checkDo(t, f, change{mkdir("g"), api.OK})
	if got, _ := posix.List(f.Tree(), "/"); !slices.Equal(got, []string{"a", "b", "c", "d", "e", "g"}) {
		t.Errorf("there are %q", got)
	}
}

// P10.2, P10.6: behind a crash nothing is done nor counted, of whatever kind, till Up.
func TestCrash(t *testing.T) {
	x := grown(t)
	f := fs.New(x)
	f.Plan(api.Fault{At: 2, Err: api.ErrCrash}, api.Fault{At: 3, Err: api.ErrIO}, api.Fault{At: 1, Err: api.ErrBusy})
	was := x.Copy()
	checkDo(t, f, change{mkdir("new"), api.ErrBusy})
	checkState(t, f, 1, false)
	checkDo(t, f, change{mkdir("new"), api.ErrCrash})
	for range 3 {
		for _, k := range []api.Task{mkdir("new"), rmdir("c"), link("new", "a"), unlink("e"), move("e", "new"), write("e", "x"), mkdir("a"), {}, {Kind: 7}, {Kind: -1}, {Kind: math.MaxInt}} {
			checkDo(t, f, change{k, api.ErrCrash})
			checkState(t, f, 2, true)
		}
	}
	checkAlike(t, x, was)
	if f.Tree() != x {
		t.Error("it is another tree")
	}
	f.Up()
	checkState(t, f, 0, false)
	checkDo(t, f, change{api.Task{}, api.ErrArg}, change{mkdir("new"), api.OK}, change{unlink("e"), api.OK}, change{rmdir("c"), api.OK}, change{rmdir("c"), api.ErrNone})
	checkState(t, f, 4, false)
}

// P10.2: Up alone ends a crash: a plan doesn't, and what it planned is gone with Up.
func TestPlanWhileDown(t *testing.T) {
	f := fs.New(nil)
	f.Plan(api.Fault{At: 1, Err: api.ErrCrash})
	checkDo(t, f, change{mkdir("a"), api.ErrCrash})
	f.Plan()
	checkState(t, f, 0, true)
	checkDo(t, f, change{mkdir("a"), api.ErrCrash})
	f.Plan(api.Fault{At: 1, Err: api.ErrIO})
	checkDo(t, f, change{mkdir("a"), api.ErrCrash}, change{api.Task{}, api.ErrCrash})
	checkState(t, f, 0, true)
	f.Up()
	checkDo(t, f, change{mkdir("a"), api.OK})
	checkState(t, f, 1, false)
}

// P10.2: Up of what is up takes the faults away, and begins to count again.
func TestUp(t *testing.T) {
	f := fs.New(nil)
	f.Up()
	checkState(t, f, 0, false)
	f.Plan(api.Fault{At: 1, Err: api.ErrIO}, api.Fault{At: 2, Err: api.ErrCrash}, api.Fault{At: 3, Err: api.ErrCrash})
	checkDo(t, f, change{mkdir("a"), api.ErrIO})
	f.Up()
	checkState(t, f, 0, false)
	checkDo(t, f, change{mkdir("a"), api.OK}, change{mkdir("b"), api.OK}, change{mkdir("c"), api.OK})
	checkState(t, f, 3, false)
	f.Plan(api.Fault{At: 1, Err: api.ErrIO})
	checkDo(t, f, change{mkdir("d"), api.ErrIO})
	checkState(t, f, 1, false)
}

// R3: a list of faults is neither kept nor changed, nor is one of tasks.
func TestListsStay(t *testing.T) {
	l := []api.Fault{{At: 3, Err: api.ErrIO}, {At: 0, Err: api.ErrIO}, {At: 1, Err: api.ErrBusy}, {At: 1, Err: api.ErrSpace}, {At: 2, Err: api.OK}}
	was := slices.Clone(l)
	f := fs.New(nil)
	f.Plan(l...)
	if !slices.Equal(l, was) {
		t.Errorf("the faults are %v", l)
	}
	clear(l)
	checkDo(t, f, change{mkdir("a"), api.ErrBusy}, change{mkdir("a"), api.OK}, change{mkdir("b"), api.ErrIO})
	tasks := []api.Task{mkdir("c"), {}, mkdir("d")}
	same := slices.Clone(tasks)
	fs.Apply(f.Tree(), tasks)
	if !slices.Equal(tasks, same) {
		t.Errorf("the tasks are %v", tasks)
	}
}

// P10.4: tasks are done up to the first one that has an error, which is told, and nothing behind it.
func TestApply(t *testing.T) {
	good := []api.Task{mkdir("new"), link("new/k", "../e"), write("new/k", "two"), write("new/w", "x"), move("new/w", "c/w"), unlink("f"), rmdir("nothing"), mkdir("behind")}
	x := grown(t)
	was := x.Copy()
	if n, e := fs.Apply(x, good); n != 6 || e != api.ErrNone {
		t.Error(n, e)
	}
	for _, k := range good[:6] {
		checkErr(t, "the slow one", slowDo(was, k), api.OK)
	}
	checkAlike(t, x, was)
	for _, c := range []change{
		{mkdir("a"), api.ErrExist}, {rmdir("a"), api.ErrNotEmpty}, {rmdir("e"), api.ErrNotDir}, {link("k", ""), api.ErrForm}, {unlink("a"), api.ErrIsDir}, {unlink("ring/x"), api.ErrLoop}, {move("a", "a/x"), api.ErrInside}, {write("k", big+"d"), api.ErrRange}, {mkdir(over), api.ErrName}, {api.Task{}, api.ErrArg}, {api.Task{Kind: 7, Path: "k"}, api.ErrArg}, {api.Task{Kind: -1, Path: "k"}, api.ErrArg},
	} {
		for n := range 7 {
			x, y := grown(t), grown(t)
			l := slices.Concat(good[:n], []api.Task{c.x}, good[n:])
			if got, e := fs.Apply(x, l); got != n || e != c.want {
				t.Errorf("Apply of %d and %v: %d, %v, not %v", n, c.x, got, e, c.want)
			}
			if got, e := fs.Apply(y, good[:n]); got != n || e != api.OK {
				t.Errorf("Apply of %d: %d, %v", n, got, e)
			}
			checkAlike(t, x, y)
		}
	}
}

// P10.4: a kind that there isn't is ErrArg, at its place.
func TestApplyOtherKinds(t *testing.T) {
	for _, k := range noKinds {
		x := tree.New()
		if n, e := fs.Apply(x, []api.Task{mkdir("a"), {Kind: k, Path: "b", Text: "c"}, mkdir("d")}); n != 1 || e != api.ErrArg || x.Len() != 2 {
			t.Errorf("with %d: %d, %v, %d nodes", k, n, e, x.Len())
		}
		if n, e := fs.Apply(x, []api.Task{rmdir("nix"), {Kind: k}}); n != 0 || e != api.ErrNone {
			t.Errorf("with %d behind an error: %d, %v", k, n, e)
		}
	}
}

// P10.4: no tasks, and many.
func TestApplyMany(t *testing.T) {
	x := grown(t)
	was := x.Copy()
	for _, l := range [][]api.Task{nil, {}} {
		if n, e := fs.Apply(x, l); n != 0 || e != api.OK {
			t.Error(n, e)
		}
	}
	checkAlike(t, x, was)
	var l []api.Task
	for range api.MaxTasks / 2 {
		l = append(l, mkdir("d"), rmdir("d"))
	}
	if n, e := fs.Apply(x, l); n != len(l) || e != api.OK || x.Len() != was.Len() {
		t.Error(n, e)
	}
	if n, e := fs.Apply(x, append(l, rmdir("d"))); n != len(l) || e != api.ErrNone {
		t.Error(n, e)
	}
}

// P10.1, P10.4: MaxNodes nodes, and one more.
func TestFull(t *testing.T) {
	var l []api.Task
	for i := 1; i < api.MaxNodes; i++ {
		l = append(l, write("f"+strconv.Itoa(i), ""))
	}
	x := tree.New()
	if n, e := fs.Apply(x, append(l, write("more", ""))); n != len(l) || e != api.ErrSpace {
		t.Error(n, e)
	}
	f := fs.New(x)
	checkDo(t, f, change{mkdir("d"), api.ErrSpace}, change{move("f1", "f2"), api.OK}, change{mkdir("d"), api.OK}, change{link("k", "d"), api.ErrSpace})
	checkState(t, f, 4, false)
}

// P10.5: of a nil FS, and of a nil tree.
func TestNil(t *testing.T) {
	var f *fs.FS
	for range 2 {
		for _, k := range []api.Task{{}, {Kind: -1}, {Kind: 7}, mkdir("a"), rmdir("a"), link("a", "b"), unlink("a"), move("a", "b"), write("a", "b"), mkdir(over)} {
			checkErr(t, "Do", f.Do(k), api.ErrNil)
		}
		checkState(t, f, 0, false)
		if f.Tree() != nil {
			t.Error("a nil FS has a tree")
		}
		f.Plan()
		f.Plan(api.Fault{At: 1, Err: api.ErrCrash}, api.Fault{At: 2, Err: api.ErrIO})
		f.Up()
		f.Plan(api.Fault{At: 1, Err: api.ErrCrash})
	}
	for _, l := range [][]api.Task{nil, {}, {mkdir("a")}, {{}}, {{Kind: 7}, mkdir("a")}, {rmdir("/")}} {
		if n, e := fs.Apply(nil, l); n != 0 || e != api.ErrNil {
			t.Errorf("Apply of %d tasks: %d, %v", len(l), n, e)
		}
	}
}

// chance answers numbers that jump about, the same ones each time.
func chance() func(n int) int {
	turn := 1
	return func(n int) int {
		turn = turn * 48271 % (1<<31 - 1)
		return turn / 7 % n
	}
}

// anyTask answers a task by chance, now and then one of a kind that there isn't.
func anyTask(next func(n int) int) api.Task {
	pieces := []string{"a", "b", "c", "a", "b", "..", "d", ""}
	text := func() string {
		l := make([]string, 1+next(3))
		for i := range l {
			l[i] = pieces[next(len(pieces))]
		}
		return strings.Join(l, "/")
	}
	k := api.Task{Kind: 1 + next(api.TaskWrite), Path: text(), Text: text()}
	if next(20) == 0 {
		k.Kind = noKinds[next(len(noKinds))]
	}
	return k
}

// anyFaults answers faults by chance, several of one change too.
func anyFaults(next func(n int) int) []api.Fault {
	l := make([]api.Fault, next(8))
	for i := range l {
		l[i] = api.Fault{At: next(14) - 2, Err: []api.Errno{api.OK, api.ErrIO, api.ErrBusy, api.ErrSpace, api.ErrCrash, api.Errno(next(25) - 2)}[next(6)]}
	}
	return l
}

// P10.1 to P10.3, P10.6: rows of calls by chance answer and do what slow ones do, and what Apply does of the tasks that had no fault.
func TestByChance(t *testing.T) {
	next := chance()
	for range 300 {
		f, s, y := fs.New(nil), &slowFS{tree: tree.New()}, tree.New()
		for range 120 {
			switch next(30) {
			case 0:
				f.Up()
				*s = slowFS{tree: s.tree}
			case 1, 2:
				l := anyFaults(next)
				f.Plan(l...)
				s.faults, s.count = l, 0
			}
			k := anyTask(next)
			want, faulty := s.do(k)
			checkDo(t, f, change{k, want})
			checkState(t, f, s.count, s.down)
			if !faulty {
				n, e := fs.Apply(y, []api.Task{k})
				if e != want || n == 1 != (want == api.OK) || n > 1 {
					t.Errorf("Apply of %v: %d, %v, not %v", k, n, e, want)
				}
			}
			if t.Failed() {
				t.FailNow()
			}
		}
		checkAlike(t, f.Tree(), s.tree)
		checkAlike(t, f.Tree(), y)
	}
}

// P10.4: tasks by chance are done as slow ones are, one behind the other.
func TestApplyByChance(t *testing.T) {
	next := chance()
	for range 2000 {
		x := tree.New()
		for range 4 {
			y := x.Copy()
			l := make([]api.Task, next(8))
			for i := range l {
				l[i] = anyTask(next)
			}
			count, want := 0, api.OK
			for _, k := range l {
				if want = slowDo(y, k); want != api.OK {
					break
				}
				count++
			}
			if n, e := fs.Apply(x, l); n != count || e != want {
				t.Fatalf("Apply of %v: %d, %v, not %d, %v", l, n, e, count, want)
			}
			checkAlike(t, x, y)
		}
	}
}
