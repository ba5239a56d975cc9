package act_test

import (
	"math"
	"slices"
	"strconv"
	"strings"
	"testing"

	"linhay/act"
	"linhay/api"
	"linhay/fs"
	"linhay/posix"
	"linhay/task"
	"linhay/tree"
)

var (
	full = strings.Repeat("n", api.MaxName)
	big  = strings.Repeat("d", api.MaxFile)
	// Errors that a fault may have: those that refuse a plan are among them.
	faultErrors = []api.Errno{api.ErrCrash, api.ErrIO, api.ErrArg, api.ErrMany, api.ErrNil, api.ErrNone, api.ErrSpace, 22, -1, math.MinInt}
	// Tasks that aren't Right. Some of them could be done as they are.
	notRight = []api.Task{
		{}, {Kind: 7, Path: "/new"}, {Kind: -1, Path: "/new"}, {Kind: math.MaxInt, Path: "/new"}, {Kind: math.MinInt, Path: "/new"},
		mkdir("new"), mkdir(""), mkdir("/"), mkdir("/new/"), mkdir("//new"), mkdir("/a/../new"), mkdir("/n\x00"), mkdir("/" + full + "n"), {Kind: api.TaskMkdir, Path: "/new", Text: "x"},
		rmdir("c"), rmdir("/"), rmdir("/c/."), {Kind: api.TaskRmdir, Path: "/c", Text: "/c"},
		link("new", "x"), link("/new", ""), link("/new", big+"d"), link("/", "x"),
		unlink("e"), unlink("/"), {Kind: api.TaskUnlink, Path: "/e", Text: "e"},
		move("e", "/new"), move("/e", "new"), move("/e", ""), move("/e", "/"), move("/", "/new"), move("/e", "/c/"), move("/e", "/"+full+"n"),
		write("new", ""), write("/", ""), write("/new", big+"d"), write("/a//f", "x"),
	}
	// Tasks that are Right, and have these errors in a tree that is grown.
	failing = []change{
		{mkdir("/a"), api.ErrExist}, {mkdir("/nix/x"), api.ErrNone}, {mkdir("/e/x"), api.ErrNotDir}, {mkdir("/ring/x"), api.ErrLoop},
		{rmdir("/a"), api.ErrNotEmpty}, {rmdir("/e"), api.ErrNotDir}, {rmdir("/nix"), api.ErrNone}, {rmdir("/l"), api.ErrNotDir},
		{link("/e", "x"), api.ErrExist}, {unlink("/a"), api.ErrIsDir}, {unlink("/nix"), api.ErrNone},
		{move("/a", "/a/x"), api.ErrInside}, {move("/nix", "/x"), api.ErrNone}, {move("/e", "/a"), api.ErrIsDir},
		{write("/a", "x"), api.ErrIsDir}, {write("/gone", "x"), api.ErrNone}, {write("/ring", "x"), api.ErrLoop},
	}
)

// change is a task, and the error that is asked for.
type change struct {
	x    api.Task
	want api.Errno
}

// mkdir answers a task.
func mkdir(p string) api.Task { return api.Task{Kind: api.TaskMkdir, Path: p} }

// rmdir answers a task.
func rmdir(p string) api.Task { return api.Task{Kind: api.TaskRmdir, Path: p} }

// link answers a task.
func link(p, text string) api.Task { return api.Task{Kind: api.TaskLink, Path: p, Text: text} }

// unlink answers a task.
func unlink(p string) api.Task { return api.Task{Kind: api.TaskUnlink, Path: p} }

// move answers a task.
func move(a, b string) api.Task { return api.Task{Kind: api.TaskMove, Path: a, Text: b} }

// write answers a task.
func write(p, data string) api.Task { return api.Task{Kind: api.TaskWrite, Path: p, Text: data} }

// good answers a plan that has no error in a tree that is grown, with all kinds.
func good() []api.Task {
	return []api.Task{mkdir("/new"), link("/new/k", "../e"), write("/new/k", "two"), write("/new/w", big), move("/new/w", "/c/w"), unlink("/c/w"), rmdir("/c"), mkdir("/l/d")}
}

// grown answers a tree with nodes of all kinds.
func grown(t *testing.T) *tree.Tree {
	t.Helper()
	x := tree.New()
	for _, e := range []api.Errno{
		posix.Mkdir(x, "a"), posix.Mkdir(x, "a/b"), posix.Write(x, "a/b/f", "one"), posix.Symlink(x, "a/b", "l"),
		posix.Symlink(x, "ring", "ring"), posix.Symlink(x, "nix", "gone"), posix.Mkdir(x, "c"), posix.Write(x, "e", ""),
	} {
		if e != api.OK {
			t.Fatal(e)
		}
	}
	return x
}

// mkdirs answers a plan of n tasks that has no error in a tree that is grown.
func mkdirs(n int) []api.Task {
	l := make([]api.Task, n)
	for i := range l {
		l[i] = mkdir("/d")
		if i%2 == 1 {
			l[i] = rmdir("/d")
		}
	}
	return l
}

// told answers all that a tree has, as a text for each number, and the number that comes next.
func told(x *tree.Tree) []string {
	y := x.Copy()
	next, _ := y.Put(tree.Root, "the next one", api.Dir, "")
	l := make([]string, next+1)
	for n := range next {
		words := []string{strconv.Itoa(x.Kind(n)), x.Data(n), strconv.Itoa(x.Up(n))}
		for _, e := range x.List(n) {
			words = append(words, e.Name, strconv.Itoa(e.Node))
		}
		l[n] = strings.Join(words, "/")
	}
	return l
}

// slowDo does a task by posix alone.
func slowDo(x *tree.Tree, k api.Task) api.Errno {
	switch k.Kind {
	case api.TaskMkdir:
		return posix.Mkdir(x, k.Path)
	case api.TaskRmdir:
		return posix.Rmdir(x, k.Path)
	case api.TaskLink:
		return posix.Symlink(x, k.Text, k.Path)
	case api.TaskUnlink:
		return posix.Unlink(x, k.Path)
	case api.TaskMove:
		return posix.Rename(x, k.Path, k.Text)
	case api.TaskWrite:
		return posix.Write(x, k.Path, k.Text)
	}
	return api.ErrArg
}

// slowDone does tasks by posix alone, with the faults of one FS that is up: how many had no error, the first error, and whether a fault has it.
func slowDone(x *tree.Tree, l []api.Task, faults ...api.Fault) (n int, e api.Errno, faulty bool) {
	for i, k := range l {
		for _, a := range faults {
			if a.At == i+1 && a.Err != api.OK {
				return i, a.Err, true
			}
		}
		if e := slowDo(x, k); e != api.OK {
			return i, e, false
		}
	}
	return len(l), api.OK, false
}

// checkAlike holds a tree against another one.
func checkAlike(t *testing.T, x, y *tree.Tree) {
	t.Helper()
	if !slices.Equal(told(x), told(y)) {
		t.Error("the tree is another one")
	}
}

// checkTold holds what was told against what is asked for.
func checkTold(t *testing.T, call string, n int, e api.Errno, count int, want api.Errno) {
	t.Helper()
	if n != count || e != want {
		t.Errorf("%.200s: %d, %v, not %d, %v", call, n, e, count, want)
	}
}

// checkValid holds Valid against what is asked for, and the tree against what it was.
func checkValid(t *testing.T, x *tree.Tree, l []api.Task, count int, want api.Errno) {
	t.Helper()
	was := told(x)
	n, e := act.Valid(x, l)
	checkTold(t, "Valid", n, e, count, want)
	if !slices.Equal(told(x), was) {
		t.Error("Valid changed the tree")
	}
}

// checkRun holds Run against what is asked for, and counts the changes.
func checkRun(t *testing.T, f *fs.FS, l []api.Task, count int, want api.Errno, changes int) {
	t.Helper()
	ahead := f.Count()
	n, e := act.Run(f, l)
	checkTold(t, "Run", n, e, count, want)
	if f.Count()-ahead != changes {
		t.Errorf("%d changes, not %d", f.Count()-ahead, changes)
	}
}

// P20.1: how many tasks have no error, and the first error, wherever it is.
func TestValid(t *testing.T) {
	l, x := good(), grown(t)
	for n := range len(l) + 1 {
		checkValid(t, x, l[:n], n, api.OK)
	}
	for _, c := range failing {
		for n := range 5 {
			checkValid(t, x, slices.Concat(l[:n], []api.Task{c.x}, l[n:]), n, c.want)
			checkValid(t, x, slices.Concat(l[:n], []api.Task{c.x, rmdir("/nowhere")}), n, c.want)
		}
	}
	checkValid(t, x, nil, 0, api.OK)
	checkValid(t, x, []api.Task{}, 0, api.OK)
}

// P20.1: tasks stand on those ahead of them.
func TestValidOneBehindTheOther(t *testing.T) {
	x := tree.New()
	checkValid(t, x, []api.Task{mkdir("/a"), mkdir("/a")}, 1, api.ErrExist)
	checkValid(t, x, []api.Task{mkdir("/a"), rmdir("/a"), mkdir("/a"), mkdir("/a/b"), write("/a/b/f", ""), rmdir("/a/b")}, 5, api.ErrNotEmpty)
	checkValid(t, x, []api.Task{write("/f", "x"), move("/f", "/g"), write("/g", "y"), unlink("/f")}, 3, api.ErrNone)
	checkValid(t, x, []api.Task{link("/k", "d"), write("/k/f", "x")}, 1, api.ErrNone)
	checkValid(t, x, []api.Task{link("/k", "d"), mkdir("/d"), write("/k/f", "x"), rmdir("/d")}, 3, api.ErrNotEmpty)
	if x.Len() != 1 {
		t.Errorf("there are %d nodes", x.Len())
	}
}

// P20.1: a task that isn't Right is ErrArg, and 0, ahead of all errors, wherever it is.
func TestValidNotRight(t *testing.T) {
	l, x := good(), grown(t)
	for i, k := range notRight {
		for n := range len(l) + 1 {
			checkValid(t, x, slices.Concat(l[:n], []api.Task{k}, l[n:]), 0, api.ErrArg)
		}
		checkValid(t, x, []api.Task{mkdir("/a"), k}, 0, api.ErrArg)
		checkValid(t, x, []api.Task{k, mkdir("/a")}, 0, api.ErrArg)
		if t.Failed() {
			t.Fatalf("%d: %d %.80q %.80q", i, k.Kind, k.Path, k.Text)
		}
	}
}

// P20.1: MaxTasks tasks may be, and one more is ErrMany, ahead of the tasks' errors, but behind ErrArg.
func TestValidMany(t *testing.T) {
	x, most := grown(t), api.MaxTasks
	checkValid(t, x, mkdirs(most), most, api.OK)
	checkValid(t, x, mkdirs(most+1), 0, api.ErrMany)
	checkValid(t, x, mkdirs(2*most), 0, api.ErrMany)
	checkValid(t, x, append([]api.Task{mkdir("/a")}, mkdirs(most-1)...), 0, api.ErrExist)
	checkValid(t, x, append([]api.Task{mkdir("/a")}, mkdirs(most)...), 0, api.ErrMany)
	checkValid(t, x, append(mkdirs(most-2), mkdir("/a"), mkdir("/a")), most-2, api.ErrExist)
	for _, n := range []int{0, 1, most - 1, most, most + 1} {
		l := mkdirs(most + 2)
		l[n] = api.Task{}
		checkValid(t, x, l, 0, api.ErrArg)
	}
}

// P20.2: tasks are done up to the first error, and what is done stays.
func TestRun(t *testing.T) {
	l := good()
	for n := range len(l) + 1 {
		x, y := grown(t), grown(t)
		f := fs.New(x)
		checkRun(t, f, l[:n], n, api.OK, n)
		if f.Tree() != x {
			t.Error("it is another tree")
		}
		slowDone(y, l[:n])
		checkAlike(t, x, y)
		for _, c := range failing[:4] {
			x := grown(t)
			checkRun(t, fs.New(x), slices.Concat(l[:n], []api.Task{c.x}, l[n:]), n, c.want, n+1)
			checkAlike(t, x, y)
		}
	}
	for _, c := range failing {
		f := fs.New(grown(t))
		checkRun(t, f, append([]api.Task{c.x}, l...), 0, c.want, 1)
		checkAlike(t, f.Tree(), grown(t))
	}
	f := fs.New(nil)
	checkRun(t, f, nil, 0, api.OK, 0)
	checkRun(t, f, []api.Task{}, 0, api.OK, 0)
}

// P20.2: a fault is told as an error of a task is, and what it is of isn't done, nor what is behind it.
func TestRunWithFaults(t *testing.T) {
	l := good()
	for _, e := range faultErrors {
		for at := 1; at <= len(l)+1; at++ {
			f := fs.New(grown(t))
			f.Plan(api.Fault{At: at, Err: e}, api.Fault{At: at + 1, Err: api.ErrBusy}, api.Fault{At: at - 1, Err: api.OK})
			if at > len(l) {
				checkRun(t, f, l, len(l), api.OK, len(l))
				continue
			}
			checkRun(t, f, l, at-1, e, at)
			if f.Down() != (e == api.ErrCrash) {
				t.Errorf("with %v: down %v", e, f.Down())
			}
			y := grown(t)
			slowDone(y, l[:at-1])
			checkAlike(t, f.Tree(), y)
		}
	}
}

// P20.2: changes are counted on from those that there were: Run plans nothing, and ends no crash.
func TestRunGoesOn(t *testing.T) {
	f := fs.New(nil)
	f.Plan(api.Fault{At: 4, Err: api.ErrIO}, api.Fault{At: 6, Err: api.ErrCrash})
	f.Do(mkdir("/x"))
	checkRun(t, f, []api.Task{mkdir("/a"), mkdir("/b")}, 2, api.OK, 2)
	checkRun(t, f, []api.Task{mkdir("/c"), mkdir("/d")}, 0, api.ErrIO, 1)
	checkRun(t, f, []api.Task{mkdir("/c"), mkdir("/d"), mkdir("/e")}, 1, api.ErrCrash, 2)
	for range 2 {
		checkRun(t, f, []api.Task{mkdir("/d"), mkdir("/e")}, 0, api.ErrCrash, 0)
		checkRun(t, f, nil, 0, api.OK, 0)
		if !f.Down() {
			t.Error("it is up")
		}
	}
	if got, _ := posix.List(f.Tree(), "/"); !slices.Equal(got, []string{"a", "b", "c", "x"}) {
		t.Errorf("there are %q", got)
	}
	f.Up()
	checkRun(t, f, []api.Task{mkdir("/d"), mkdir("/e")}, 2, api.OK, 2)
}

// P20.2: nothing is done of a plan that Valid refuses with ErrArg or ErrMany, and no fault is come to.
func TestRunRefused(t *testing.T) {
	l, most := good(), api.MaxTasks
	plans := map[api.Errno][][]api.Task{api.ErrMany: {mkdirs(most + 1), append([]api.Task{mkdir("/a")}, mkdirs(most)...)}, api.ErrArg: {append(mkdirs(most+1), api.Task{})}}
	for _, k := range notRight {
		plans[api.ErrArg] = append(plans[api.ErrArg], []api.Task{k}, append(good(), k), append([]api.Task{mkdir("/a"), k}, l...))
	}
	for want, lists := range plans {
		for i, p := range lists {
			f := fs.New(grown(t))
			f.Plan(api.Fault{At: 1, Err: api.ErrCrash})
			checkRun(t, f, p, 0, want, 0)
			checkAlike(t, f.Tree(), grown(t))
			if f.Down() {
				t.Error("it is down")
			}
			f.Do(mkdir("/down"))
			checkRun(t, f, p, 0, want, 0)
			checkAlike(t, f.Tree(), grown(t))
			if t.Failed() {
				t.Fatalf("%d of %v", i, want)
			}
		}
	}
	f := fs.New(grown(t))
	checkRun(t, f, mkdirs(most), most, api.OK, most)
}

// P20.2: a plan that Valid refuses with another error is done up to there.
func TestRunOfWhatFails(t *testing.T) {
	l := []api.Task{mkdir("/new"), mkdir("/a"), mkdir("/newer")}
	f := fs.New(grown(t))
	checkValid(t, f.Tree(), l, 1, api.ErrExist)
	checkRun(t, f, l, 1, api.ErrExist, 2)
	checkValid(t, f.Tree(), l, 0, api.ErrExist)
	if got, _ := posix.List(f.Tree(), "/"); !slices.Equal(got, []string{"a", "c", "e", "gone", "l", "new", "ring"}) {
		t.Errorf("there are %q", got)
	}
}

// P20.3: the tree behind as many tasks, none if n is below 1, all if it is above their number.
func TestAfter(t *testing.T) {
	l, x := good(), grown(t)
	for n := -3; n <= len(l)+3; n++ {
		y := grown(t)
		slowDone(y, l[:min(max(n, 0), len(l))])
		checkAlike(t, act.After(x, l, n), y)
		checkAlike(t, act.After(x, nil, n), x)
	}
	all := act.After(x, l, len(l))
	for _, n := range []int{math.MaxInt, math.MaxInt - 1, math.MaxInt32} {
		checkAlike(t, act.After(x, l, n), all)
		checkAlike(t, act.After(x, l, -n), x)
		checkAlike(t, act.After(x, nil, n), x)
		checkAlike(t, act.After(x, nil, -n), x)
	}
	checkAlike(t, act.After(x, l, math.MinInt), x)
	checkAlike(t, x, grown(t))
}

// P20.3: tasks are done as far as they have no error.
func TestAfterError(t *testing.T) {
	l, x := good(), grown(t)
	for _, c := range failing {
		for n := range 5 {
			p := slices.Concat(l[:n], []api.Task{c.x}, l[n:])
			for m := range len(p) + 2 {
				y := grown(t)
				slowDone(y, l[:min(n, m)])
				checkAlike(t, act.After(x, p, m), y)
			}
		}
	}
	checkAlike(t, x, grown(t))
}

// P20.3: Apply alone is asked: a task that isn't Right may have no error, and there may be more than MaxTasks.
func TestAfterOfWhatIsNoPlan(t *testing.T) {
	x := grown(t)
	for _, k := range notRight {
		l := []api.Task{mkdir("/ahead"), k, mkdir("/behind")}
		for n := range 4 {
			y := grown(t)
			slowDone(y, l[:n])
			checkAlike(t, act.After(x, l, n), y)
		}
	}
	if u := act.After(x, []api.Task{mkdir("d"), {Kind: 7}, mkdir("/g")}, 9); u.Len() != x.Len()+1 {
		t.Errorf("there are %d nodes", u.Len())
	}
	for _, n := range []int{0, 1, 2, 3} {
		m := api.MaxTasks + n
		if u := act.After(tree.New(), mkdirs(m), m); u.Len() != 1+m%2 {
			t.Errorf("behind %d: %d nodes", m, u.Len())
		}
	}
}

// P20.1, P20.3: a copy is new memory, also where nothing is done.
func TestAfterIsACopy(t *testing.T) {
	x := grown(t)
	for _, n := range []int{-1, 0, 1, 9} {
		u := act.After(x, good(), n)
		if u == x {
			t.Fatal("it is the tree itself")
		}
		posix.Mkdir(u, "/by others")
		posix.Write(u, "/e", "by others")
		checkAlike(t, x, grown(t))
		was := told(u)
		v := x.Copy()
		posix.Unlink(v, "/e")
		if !slices.Equal(told(u), was) {
			t.Error("it is changed with another one")
		}
	}
}

// P20.4: of a nil tree or FS, whatever the tasks are.
func TestNil(t *testing.T) {
	for _, l := range [][]api.Task{nil, {}, {mkdir("/a")}, {mkdir("a")}, {{}}, good(), mkdirs(api.MaxTasks + 1)} {
		n, e := act.Valid(nil, l)
		checkTold(t, "Valid", n, e, 0, api.ErrNil)
		n, e = act.Run(nil, l)
		checkTold(t, "Run", n, e, 0, api.ErrNil)
		for _, m := range []int{math.MinInt, -1, 0, 1, 2, math.MaxInt} {
			if act.After(nil, l, m) != nil {
				t.Error("After of nil is a tree")
			}
		}
	}
}

// R3: the tasks stay as they are.
func TestListsStay(t *testing.T) {
	for _, c := range failing[:3] {
		l := append(good(), c.x, api.Task{})[:len(good())+1]
		room := slices.Clone(l[:cap(l)])
		x := grown(t)
		act.Valid(x, l)
		act.After(x, l, 3)
		act.After(x, l, 99)
		act.Run(fs.New(x), l)
		if !slices.Equal(l[:cap(l)], room) {
			t.Error("the tasks are others")
		}
	}
}

// chance answers numbers that jump about, the same ones each time.
func chance() func(n int) int {
	turn := 1
	return func(n int) int {
		turn = turn * 48271 % (1<<31 - 1)
		return turn / 7 % n
	}
}

// anyPlan answers tasks by chance, now and then one that isn't Right.
func anyPlan(next func(n int) int) []api.Task {
	paths := []string{"/a", "/b", "/c", "/a/a", "/a/b", "/b/a", "/b/b", "/a/b/a"}
	l := make([]api.Task, next(9))
	for i := range l {
		k := api.Task{Kind: 1 + next(api.TaskWrite), Path: paths[next(len(paths))]}
		switch k.Kind {
		case api.TaskMove:
			k.Text = paths[next(len(paths))]
		case api.TaskLink, api.TaskWrite:
			k.Text = []string{"a", "../b", "/a/b", "c"}[next(4)]
		}
		if next(60) == 0 {
			k = notRight[next(len(notRight))]
		}
		l[i] = k
	}
	return l
}

// anyFaults answers faults by chance.
func anyFaults(next func(n int) int) []api.Fault {
	l := make([]api.Fault, next(3))
	for i := range l {
		l[i] = api.Fault{At: next(12) - 1, Err: append(faultErrors, api.OK)[next(len(faultErrors)+1)]}
	}
	return l
}

// P20.1 to P20.3, P20.5: plans by chance, with faults by chance: what is told is what a slow one tells, and the tree behind Run is After of it.
func TestByChance(t *testing.T) {
	next := chance()
	for range 1500 {
		x := tree.New()
		for range 6 {
			l, faults, was := anyPlan(next), anyFaults(next), x.Copy()
			right := !slices.ContainsFunc(l, func(k api.Task) bool { return !task.Right(k) })
			slow := x.Copy()
			count, want, _ := slowDone(slow, l)
			checkAlike(t, act.After(x, l, len(l)), slow)
			if !right {
				count, want = 0, api.ErrArg
			}
			checkValid(t, x, l, count, want)
			f := fs.New(x)
			f.Plan(faults...)
			count, want, faulty := slowDone(was.Copy(), l, faults...)
			if !right {
				count, want, faulty = 0, api.ErrArg, false
			}
			n, e := act.Run(f, l)
			checkTold(t, "Run", n, e, count, want)
			if f.Down() != (faulty && want == api.ErrCrash) {
				t.Errorf("down %v with %v", f.Down(), want)
			}
			checkAlike(t, x, act.After(was, l, n))
			if t.Failed() {
				t.Fatalf("%v with %v", l, faults)
			}
		}
	}
}

// P20.5: of plans that are Valid, without a fault, all is done; with one, just what is ahead of it; and the tree behind Run is After of the number that it told.
func TestItFollows(t *testing.T) {
	for _, l := range [][]api.Task{nil, good(), good()[:3], mkdirs(7), {write("/f", big), move("/f", "/a/b/f"), move("/a", "/c/a"), unlink("/l"), link("/l", "c/a")}} {
		x := grown(t)
		checkValid(t, x, l, len(l), api.OK)
		f := fs.New(x.Copy())
		checkRun(t, f, l, len(l), api.OK, len(l))
		checkAlike(t, f.Tree(), act.After(x, l, len(l)))
		for at := range len(l) {
			for _, e := range faultErrors {
				f := fs.New(x.Copy())
				f.Plan(api.Fault{At: at + 1, Err: e})
				checkRun(t, f, l, at, e, at+1)
				checkAlike(t, f.Tree(), act.After(x, l, at))
				if e == api.ErrCrash {
					f.Up()
				}
				// The rest, as from there on.
				checkRun(t, f, l[at:], len(l)-at, api.OK, len(l)-at)
				checkAlike(t, f.Tree(), act.After(x, l, len(l)))
			}
		}
	}
}
