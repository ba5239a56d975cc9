package plan_test

import (
	"math"
	"slices"
	"sort"
	"strconv"
	"strings"
	"testing"

	"linhay/act"
	"linhay/api"
	"linhay/fs"
	"linhay/plan"
	"linhay/posix"
	"linhay/task"
	"linhay/tree"
)

var (
	full = strings.Repeat("n", api.MaxName)
	big  = strings.Repeat("d", api.MaxFile)
	// Tasks that aren't Right. Some of them could be done as they are.
	notRight = []api.Task{
		{}, {Kind: 7, Path: "/new"}, {Kind: -1, Path: "/new"}, {Kind: math.MaxInt, Path: "/new"}, {Kind: math.MinInt, Path: "/new"},
		mkdir("new"), mkdir(""), mkdir("/"), mkdir("/new/"), mkdir("//new"), mkdir("/a/../new"), mkdir("/n\x00"), mkdir("/" + full + "n"), {Kind: api.TaskMkdir, Path: "/new", Text: "x"},
		rmdir("c"), rmdir("/"), rmdir("/c/."), {Kind: api.TaskRmdir, Path: "/c", Text: "/c"},
		link("new", "x"), link("/new", ""), link("/new", big+"d"), link("/", "x"),
		unlink("e"), unlink("/"), {Kind: api.TaskUnlink, Path: "/e", Text: "e"},
		move("e", "/new"), move("/e", "new"), move("/e", ""), move("/e", "/"), move("/", "/new"), move("/e", "/c/"), move("/e", "/"+full+"n"),
		write("new", ""), write("/", ""), write("/new", big+"d"), write("/a//f", "x"),
	}
	// Tasks that are Right, and have these errors in a tree that is grown, and behind any beginning of good.
	failing = []change{
		{mkdir("/a"), api.ErrExist}, {mkdir("/nix/x"), api.ErrNone}, {mkdir("/e/x"), api.ErrNotDir}, {mkdir("/ring/x"), api.ErrLoop},
		{rmdir("/a"), api.ErrNotEmpty}, {rmdir("/nix"), api.ErrNone}, {rmdir("/l"), api.ErrNotDir},
		{link("/a", "x"), api.ErrExist}, {unlink("/a"), api.ErrIsDir}, {unlink("/nix"), api.ErrNone},
		{move("/a", "/a/x"), api.ErrInside}, {move("/nix", "/x"), api.ErrNone}, {move("/e", "/a"), api.ErrIsDir},
		{write("/a", "x"), api.ErrIsDir}, {write("/gone", "x"), api.ErrNone}, {write("/ring", "x"), api.ErrLoop},
	}
	// Numbers of tasks that are asked for, beside those that may be.
	far = []int{-1, -2, -api.MaxTasks, math.MinInt, math.MinInt + 1, 1000, api.MaxTasks, math.MaxInt32, math.MaxInt - 1, math.MaxInt}
)

// change is a task, and the error that is asked for.
type change struct {
	x    api.Task
	want api.Errno
}

// mkdir answers a task.
func mkdir(p string) api.Task { return api.Task{Kind: api.TaskMkdir, Path: p} }

// rmdir answers a task.
func rmdir(p string) api.Task { return api.Task{Kind: api.TaskRmdir, Path: p} }

// link answers a task.
func link(p, text string) api.Task { return api.Task{Kind: api.TaskLink, Path: p, Text: text} }

// unlink answers a task.
func unlink(p string) api.Task { return api.Task{Kind: api.TaskUnlink, Path: p} }

// move answers a task.
func move(a, b string) api.Task { return api.Task{Kind: api.TaskMove, Path: a, Text: b} }

// write answers a task.
func write(p, data string) api.Task { return api.Task{Kind: api.TaskWrite, Path: p, Text: data} }

// good answers tasks that have no error in a tree that is grown, of all kinds.
func good() []api.Task {
	return []api.Task{mkdir("/new"), link("/new/k", "../e"), write("/new/k", "two"), write("/new/w", big), move("/new/w", "/c/w"), unlink("/c/w"), rmdir("/c"), mkdir("/l/d")}
}

// grown answers a tree with nodes of all kinds, whose numbers aren't all there.
func grown(t *testing.T) *tree.Tree {
	t.Helper()
	x := tree.New()
	for _, e := range []api.Errno{
		posix.Mkdir(x, "a"), posix.Mkdir(x, "a/b"), posix.Write(x, "a/b/f", "one"), posix.Symlink(x, "a/b", "l"),
		posix.Symlink(x, "ring", "ring"), posix.Symlink(x, "nix", "gone"), posix.Mkdir(x, "c"), posix.Write(x, "z", ""), posix.Write(x, "e", ""), posix.Unlink(x, "z"),
	} {
		if e != api.OK {
			t.Fatal(e)
		}
	}
	return x
}

// told answers all that a tree has, as a text for each number, and the number that comes next.
func told(x *tree.Tree) []string {
	y := x.Copy()
	next, _ := y.Put(tree.Root, "the next one", api.Dir, "")
	l := make([]string, next+1)
	for n := range next {
		words := []string{strconv.Itoa(x.Kind(n)), x.Data(n), strconv.Itoa(x.Up(n))}
		for _, e := range x.List(n) {
			words = append(words, e.Name, strconv.Itoa(e.Node))
		}
		l[n] = strings.Join(words, "/")
	}
	return l
}

// slowDo does a task by posix alone.
func slowDo(x *tree.Tree, k api.Task) api.Errno {
	switch k.Kind {
	case api.TaskMkdir:
		return posix.Mkdir(x, k.Path)
	case api.TaskRmdir:
		return posix.Rmdir(x, k.Path)
	case api.TaskLink:
		return posix.Symlink(x, k.Text, k.Path)
	case api.TaskUnlink:
		return posix.Unlink(x, k.Path)
	case api.TaskMove:
		return posix.Rename(x, k.Path, k.Text)
	case api.TaskWrite:
		return posix.Write(x, k.Path, k.Text)
	}
	return api.ErrArg
}

// slowPlan is a slow plan: it keeps the tree behind each task.
type slowPlan struct {
	trees     []*tree.Tree // one more than tasks
	tasks     []api.Task
	conflicts []api.Conflict
}

// newSlow answers a slow plan.
func newSlow(x *tree.Tree) *slowPlan { return &slowPlan{trees: []*tree.Tree{x.Copy()}} }

// do is a slow Do.
func (s *slowPlan) do(k api.Task) api.Errno {
	if !task.Right(k) {
		return api.ErrArg
	}
	if len(s.tasks) == api.MaxTasks {
		return api.ErrMany
	}
	x := s.trees[len(s.tasks)].Copy()
	if e := slowDo(x, k); e != api.OK {
		return e
	}
	s.trees, s.tasks = append(s.trees, x), append(s.tasks, k)
	return api.OK
}

// fail is a slow Fail.
func (s *slowPlan) fail(path, why string) {
	for _, c := range s.conflicts {
		if c.Path == path {
			return
		}
	}
	s.conflicts = append(s.conflicts, api.Conflict{Path: path, Why: why})
	sort.Slice(s.conflicts, func(i, j int) bool { return s.conflicts[i].Path < s.conflicts[j].Path })
}

// back is a slow Back.
func (s *slowPlan) back(n int) {
	for len(s.tasks) > max(n, 0) {
		s.tasks = s.tasks[:len(s.tasks)-1]
		s.trees = s.trees[:len(s.tasks)+1]
	}
}

// checkPlan holds all that a plan tells against a slow one.
func checkPlan(t *testing.T, p *plan.Plan, s *slowPlan) {
	t.Helper()
	if !slices.Equal(p.Tasks(), s.tasks) {
		t.Errorf("the tasks are %.200v, not %.200v", p.Tasks(), s.tasks)
	}
	if !slices.Equal(p.Conflicts(), s.conflicts) {
		t.Errorf("the conflicts are %.200q, not %.200q", p.Conflicts(), s.conflicts)
	}
	checkAlike(t, p.Tree(), s.trees[len(s.tasks)])
}

// checkAlike holds a tree against another one.
func checkAlike(t *testing.T, x, y *tree.Tree) {
	t.Helper()
	if !slices.Equal(told(x), told(y)) {
		t.Error("the tree is another one")
	}
}

// checkDo holds Do against what is asked for.
func checkDo(t *testing.T, p *plan.Plan, k api.Task, want api.Errno) {
	t.Helper()
	if e := p.Do(k); e != want {
		t.Errorf("Do of %d %.80q %.80q: %v, not %v", k.Kind, k.Path, k.Text, e, want)
	}
}

// made answers a plan of a tree that is grown, with the first n tasks of good, and a slow one.
func made(t *testing.T, n int) (*plan.Plan, *slowPlan) {
	t.Helper()
	x := grown(t)
	p, s := plan.New(x), newSlow(x)
	for _, k := range good()[:n] {
		checkDo(t, p, k, api.OK)
		s.do(k)
	}
	return p, s
}

// filled answers a plan of n tasks, of a new tree: /d is made, and taken away.
func filled(t *testing.T, n int) *plan.Plan {
	t.Helper()
	p := plan.New(nil)
	for i := range n {
		checkDo(t, p, []api.Task{mkdir("/d"), rmdir("/d")}[i%2], api.OK)
	}
	return p
}

// P21.1: a plan has a copy of the tree, numbers too, and neither tasks nor conflicts.
func TestNew(t *testing.T) {
	x := grown(t)
	p := plan.New(x)
	checkPlan(t, p, newSlow(x))
	if p.Tree() == x {
		t.Error("it is the tree itself")
	}
	// Of a tree without room for one node more, also.
	for i := 0; x.Len() < api.MaxNodes; i++ {
		posix.Write(x, "/a/"+strconv.Itoa(i), "")
	}
	p = plan.New(x)
	if p.Tree().Len() != api.MaxNodes {
		t.Errorf("there are %d nodes", p.Tree().Len())
	}
	checkDo(t, p, mkdir("/new"), api.ErrSpace)
	checkDo(t, p, unlink("/a/7"), api.OK)
	checkDo(t, p, mkdir("/new"), api.OK)
	checkDo(t, p, mkdir("/newer"), api.ErrSpace)
	p.Back(1)
	checkDo(t, p, mkdir("/newer"), api.OK)
}

// P21.1: of a nil tree, a plan of a new one, each time of another one.
func TestNewOfNil(t *testing.T) {
	p, q := plan.New(nil), plan.New(nil)
	if p == nil || p.Tree() == nil || p.Tree() == q.Tree() {
		t.Fatal("it isn't a new tree")
	}
	checkPlan(t, p, newSlow(tree.New()))
	checkDo(t, p, mkdir("/a"), api.OK)
	checkDo(t, q, write("/a", "x"), api.OK)
	if p.Tree().Kind(2) != api.Dir || q.Tree().Kind(2) != api.File {
		t.Error("both are of one tree")
	}
	p.Back(0)
	checkPlan(t, p, newSlow(tree.New()))
}

// P21.1, P21.3: the tree that was handed in, and the copy, change nothing of one another.
func TestTheTreeItself(t *testing.T) {
	x := grown(t)
	p, s := plan.New(x), newSlow(x)
	for _, k := range good() {
		checkDo(t, p, k, api.OK)
		s.do(k)
	}
	checkAlike(t, x, grown(t))
	posix.Mkdir(x, "/by others")
	posix.Write(x, "/e", "by others")
	posix.Unlink(x, "/l")
	was := told(x)
	checkPlan(t, p, s)
	for _, n := range []int{5, 3, 0} {
		p.Back(n)
		s.back(n)
		checkPlan(t, p, s)
	}
	checkDo(t, p, mkdir("/by others"), api.OK)
	if !slices.Equal(told(x), was) {
		t.Error("the tree is changed")
	}
}

// P21.1, P21.2: each task without an error is the last one, and stands on those ahead of it.
func TestDo(t *testing.T) {
	x := grown(t)
	p, s := plan.New(x), newSlow(x)
	for i, k := range good() {
		checkDo(t, p, k, api.OK)
		s.do(k)
		checkPlan(t, p, s)
		if l := p.Tasks(); len(l) != i+1 || l[i] != k {
			t.Errorf("the task %d isn't the last one", i+1)
		}
	}
	p = plan.New(nil)
	checkDo(t, p, mkdir("/a"), api.OK)
	checkDo(t, p, mkdir("/a"), api.ErrExist)
	if !slices.Equal(p.Tasks(), []api.Task{mkdir("/a")}) {
		t.Errorf("the tasks are %v", p.Tasks())
	}
	for _, c := range []change{{mkdir("/a/b"), api.OK}, {rmdir("/a"), api.ErrNotEmpty}, {rmdir("/a/b"), api.OK}, {rmdir("/a"), api.OK}, {rmdir("/a"), api.ErrNone}, {link("/k", "d"), api.OK}, {write("/k/f", "x"), api.ErrNone}, {mkdir("/d"), api.OK}, {write("/k/f", "x"), api.OK}} {
		checkDo(t, p, c.x, c.want)
	}
	if len(p.Tasks()) != 7 {
		t.Errorf("the tasks are %v", p.Tasks())
	}
}

// P21.1: a task with an error is none of the plan, and changes nothing, whatever is ahead of it; what comes behind it is done.
func TestDoWithAnError(t *testing.T) {
	for n := range 5 {
		p, s := made(t, n)
		for _, c := range failing {
			checkDo(t, p, c.x, c.want)
			checkPlan(t, p, s)
		}
		for _, k := range notRight {
			checkDo(t, p, k, api.ErrArg)
			checkPlan(t, p, s)
		}
		for _, k := range good()[n:] {
			checkDo(t, p, k, api.OK)
			s.do(k)
		}
		checkPlan(t, p, s)
	}
}

// P21.1: MaxTasks tasks may be; one more is ErrMany, behind ErrArg, but ahead of the error that it has. Conflicts aren't counted, nor tasks with an error.
func TestMany(t *testing.T) {
	most := api.MaxTasks
	p := filled(t, most-1)
	p.Fail("/d", "file")
	checkDo(t, p, mkdir("/d"), api.ErrExist)
	checkDo(t, p, mkdir("d"), api.ErrArg)
	checkDo(t, p, rmdir("/d"), api.OK)
	l, was := p.Tasks(), told(p.Tree())
	for range 2 {
		checkDo(t, p, mkdir("/d"), api.ErrMany)
		for _, c := range failing {
			checkDo(t, p, c.x, api.ErrMany)
		}
		for _, k := range notRight {
			checkDo(t, p, k, api.ErrArg)
		}
	}
	if len(l) != most || !slices.Equal(p.Tasks(), l) || !slices.Equal(told(p.Tree()), was) || len(p.Conflicts()) != 1 {
		t.Errorf("there are %d tasks, then %d, and %d conflicts", len(l), len(p.Tasks()), len(p.Conflicts()))
	}
	// Where there is room again, they go on.
	p.Back(most - 1)
	if p.Tree().Len() != 2 {
		t.Errorf("there are %d nodes", p.Tree().Len())
	}
	checkDo(t, p, mkdir("/d"), api.ErrExist)
	checkDo(t, p, write("/d/f", ""), api.OK)
	checkDo(t, p, write("/d/g", ""), api.ErrMany)
	p.Back(2)
	if len(p.Tasks()) != 2 || p.Tree().Len() != 1 {
		t.Errorf("there are %d tasks", len(p.Tasks()))
	}
}

// P21.2: Since has those behind the first n: all, if n is below 0, none, if there aren't more.
func TestSince(t *testing.T) {
	for m := range len(good()) + 1 {
		p, _ := made(t, m)
		for n := -3; n <= m+3; n++ {
			if got, want := p.Since(n), good()[min(max(n, 0), m):m]; !slices.Equal(got, want) {
				t.Errorf("of %d tasks Since(%d) is %.200v", m, n, got)
			}
		}
		for _, n := range far {
			want := p.Tasks()
			if n > 0 {
				want = nil
			}
			if !slices.Equal(p.Since(n), want) {
				t.Errorf("of %d tasks Since(%d) is %.200v", m, n, p.Since(n))
			}
		}
	}
}

// P21.2: of one path the first conflict is the only one, and they rise byte by byte, whatever the paths are.
func TestConflicts(t *testing.T) {
	p, s := made(t, 3)
	paths := []string{"/b", "/a/b", "/a-", "/a", "/", "", "/A", "/\xff", "/\xc3\xa9", "/a/", "a", "/10", "/9", "//", "/a\x00", "\xff\xff", "/a b", "/aa", "/B", "/" + full}
	for i, x := range paths {
		p.Fail(x, "file")
		p.Fail(x, "link"+strconv.Itoa(i))
		s.fail(x, "file")
		checkPlan(t, p, s)
	}
	for _, x := range paths {
		p.Fail(x, "")
		checkPlan(t, p, s)
	}
	if l := p.Conflicts(); len(l) != len(paths) || l[0].Path != "" || l[len(l)-1].Path != "\xff\xff" {
		t.Errorf("they are %q", l)
	}
	// A conflict without a reason is one, too, and its path may be a task's.
	p.Fail("/new", "")
	p.Fail("/new", "room")
	s.fail("/new", "")
	checkPlan(t, p, s)
	checkDo(t, p, write("/b", ""), api.OK)
	s.do(write("/b", ""))
	checkPlan(t, p, s)
}

// P21.2: as many conflicts as there are, each once.
func TestManyConflicts(t *testing.T) {
	p, n := plan.New(nil), 3*api.MaxTasks
	for i := range n {
		p.Fail("/"+strconv.Itoa(i*7%n), strconv.Itoa(i))
		p.Fail("/"+strconv.Itoa(i*7%n), "again")
	}
	l := p.Conflicts()
	if len(l) != n {
		t.Fatalf("there are %d", len(l))
	}
	for i, c := range l {
		if i > 0 && l[i-1].Path >= c.Path {
			t.Fatalf("%q isn't behind %q", c.Path, l[i-1].Path)
		}
		if at, _ := strconv.Atoi(c.Why); "/"+strconv.Itoa(at*7%n) != c.Path {
			t.Fatalf("%q has %q", c.Path, c.Why)
		}
	}
	if len(p.Tasks()) != 0 || p.Tree().Len() != 1 {
		t.Error("there are tasks")
	}
}

// P21.3: Back goes back to each place, and tasks go on from there; conflicts stay.
func TestBack(t *testing.T) {
	most := len(good())
	for n := -2; n <= most+2; n++ {
		p, s := made(t, most)
		p.Fail("/x", "file")
		s.fail("/x", "file")
		p.Back(n)
		s.back(n)
		checkPlan(t, p, s)
		for _, c := range failing[:4] {
			checkDo(t, p, c.x, c.want)
		}
		p.Fail("/w", "link")
		s.fail("/w", "link")
		// Others than those that were there, and then back, and those again.
		for i, k := range []api.Task{write("/other", "x"), mkdir("/c/other"), unlink("/e"), rmdir("/c")} {
			if e, want := p.Do(k), s.do(k); e != want {
				t.Errorf("back to %d, %d: %v, not %v", n, i, e, want)
			}
			checkPlan(t, p, s)
		}
		p.Back(n)
		s.back(n)
		checkPlan(t, p, s)
		for _, k := range good()[min(max(n, 0), most):] {
			if e, want := p.Do(k), s.do(k); e != want {
				t.Errorf("back to %d: %v, not %v", n, e, want)
			}
		}
		checkPlan(t, p, s)
	}
}

// P21.3: one Back behind the other, and those that lead nowhere.
func TestBackAgain(t *testing.T) {
	for m := range len(good()) + 1 {
		p, s := made(t, m)
		for _, n := range far[5:] {
			p.Back(n)
			checkPlan(t, p, s)
		}
		for n := m + 1; n >= -1; n-- {
			for range 2 {
				p.Back(n)
				s.back(n)
				checkPlan(t, p, s)
			}
			p.Back(m + 1)
			checkPlan(t, p, s)
		}
		for _, n := range far[:5] {
			p, s := made(t, m)
			p.Back(n)
			s.back(0)
			checkPlan(t, p, s)
		}
	}
}

// P21.3: the numbers of nodes are as they were, also where ones were given that are gone.
func TestBackNumbers(t *testing.T) {
	p := plan.New(nil)
	for _, k := range []api.Task{mkdir("/a"), write("/f", ""), unlink("/f"), mkdir("/b")} {
		checkDo(t, p, k, api.OK)
	}
	for _, c := range []struct{ back, node int }{{4, 5}, {3, 4}, {2, 4}, {1, 3}, {0, 2}} {
		p.Back(c.back)
		checkDo(t, p, mkdir("/new"), api.OK)
		if st, e := posix.Lstat(p.Tree(), "/new"); e != api.OK || st.Node != c.node {
			t.Errorf("behind %d tasks the new one is %d, not %d", c.back, st.Node, c.node)
		}
		p.Back(c.back)
	}
}

// P21.1, P21.3: Tree answers the copy itself: what was answered is as the copy is, behind Do and Back too.
func TestTreeIsTheCopy(t *testing.T) {
	p, s := made(t, 0)
	x := p.Tree()
	for i, k := range good() {
		checkDo(t, p, k, api.OK)
		s.do(k)
		checkAlike(t, x, s.trees[i+1])
	}
	for n := len(good()); n >= 0; n-- {
		p.Back(n)
		checkAlike(t, x, s.trees[n])
		if p.Tree() != x {
			t.Error("it is another one")
		}
	}
	for i, k := range good() {
		checkDo(t, p, k, api.OK)
		checkAlike(t, x, s.trees[i+1])
	}
}

// P21.4: of a nil plan.
func TestNil(t *testing.T) {
	var p *plan.Plan
	for range 2 {
		for _, k := range slices.Concat(good(), notRight) {
			checkDo(t, p, k, api.ErrNil)
		}
		p.Fail("/a", "file")
		p.Fail("", "")
		for _, n := range append(far, 0, 1, 2) {
			p.Back(n)
			if p.Since(n) != nil {
				t.Errorf("Since(%d) is %v", n, p.Since(n))
			}
		}
		if p.Tree() != nil || p.Tasks() != nil || p.Conflicts() != nil {
			t.Error("there is something")
		}
	}
}

// R3: what is answered is new memory.
func TestNewMemory(t *testing.T) {
	p, s := made(t, 6)
	for _, x := range []string{"/c", "/b", "/a"} {
		p.Fail(x, "file")
		s.fail(x, "file")
	}
	spoil := func(l []api.Task) {
		for i := range l[:cap(l)] {
			l[:cap(l)][i] = mkdir("/by others")
		}
	}
	for n := -1; n < 8; n++ {
		spoil(p.Tasks())
		spoil(p.Since(n))
		l := p.Conflicts()
		for i := range l[:cap(l)] {
			l[:cap(l)][i].Path = "/by others"
		}
		checkPlan(t, p, s)
	}
	// What was answered stays, whatever comes behind it.
	l, m, c := p.Tasks(), p.Since(3), p.Conflicts()
	wasL, wasM, wasC := slices.Clone(l), slices.Clone(m), slices.Clone(c)
	p.Back(2)
	for i := range 9 {
		checkDo(t, p, mkdir("/z"+strconv.Itoa(i)), api.OK)
		p.Fail("/0"+strconv.Itoa(i), "link")
	}
	if !slices.Equal(l, wasL) || !slices.Equal(m, wasM) || !slices.Equal(c, wasC) {
		t.Error("what was answered is changed")
	}
}

// R4: two plans of one tree know nothing of one another.
func TestTwoOfOneTree(t *testing.T) {
	x := grown(t)
	p, q := plan.New(x), plan.New(x)
	checkDo(t, p, rmdir("/c"), api.OK)
	p.Fail("/e", "file")
	checkPlan(t, q, newSlow(x))
	checkDo(t, q, rmdir("/c"), api.OK)
	p.Back(0)
	checkDo(t, q, rmdir("/c"), api.ErrNone)
	checkDo(t, p, rmdir("/c"), api.OK)
	// One of the other one's copy keeps what that was.
	s := newSlow(q.Tree())
	r := plan.New(q.Tree())
	q.Back(0)
	checkDo(t, q, mkdir("/q"), api.OK)
	checkPlan(t, r, s)
	r.Back(-1)
	checkPlan(t, r, s)
	checkDo(t, r, mkdir("/c"), api.OK)
	r.Back(0)
	checkPlan(t, r, s)
}

// chance answers numbers that jump about, the same ones each time.
func chance() func(n int) int {
	turn := 1
	return func(n int) int {
		turn = turn * 48271 % (1<<31 - 1)
		return turn / 7 % n
	}
}

// anyTask answers a task by chance, now and then one that isn't Right.
func anyTask(next func(n int) int) api.Task {
	paths := []string{"/a", "/b", "/c", "/a/a", "/a/b", "/b/a", "/b/b", "/a/b/a"}
	if next(30) == 0 {
		return notRight[next(len(notRight))]
	}
	k := api.Task{Kind: 1 + next(api.TaskWrite), Path: paths[next(len(paths))]}
	switch k.Kind {
	case api.TaskMove:
		k.Text = paths[next(len(paths))]
	case api.TaskLink, api.TaskWrite:
		k.Text = []string{"a", "../b", "/a/b", "c"}[next(4)]
	}
	return k
}

// P21.1 to P21.3, P21.5: calls by chance: a plan is as a slow one, and its tasks, done on the tree, make the copy.
func TestByChance(t *testing.T) {
	next := chance()
	for round := range 400 {
		x := tree.New()
		for range next(9) {
			slowDo(x, anyTask(next))
		}
		was := told(x)
		p, s := plan.New(x), newSlow(x)
		for range 60 {
			switch next(12) {
			case 0:
				n := next(len(s.tasks)+3) - 1
				p.Back(n)
				s.back(n)
			case 1:
				at, why := anyTask(next).Path, strconv.Itoa(next(9))
				p.Fail(at, why)
				s.fail(at, why)
			case 2:
				n := next(len(s.tasks)+3) - 1
				if !slices.Equal(p.Since(n), s.tasks[min(max(n, 0), len(s.tasks)):]) {
					t.Errorf("Since(%d) is %v", n, p.Since(n))
				}
			default:
				k := anyTask(next)
				checkDo(t, p, k, s.do(k))
			}
			checkPlan(t, p, s)
			if t.Failed() {
				t.Fatalf("round %d: %v", round, s.tasks)
			}
		}
		if !slices.Equal(told(x), was) {
			t.Fatal("the tree is changed")
		}
		checkFollows(t, x, p)
	}
}

// checkFollows does a plan's tasks on a tree, and holds it against the copy.
func checkFollows(t *testing.T, x *tree.Tree, p *plan.Plan) {
	t.Helper()
	l := p.Tasks()
	if n, e := act.Valid(x, l); n != len(l) || e != api.OK {
		t.Errorf("Valid is %d, %v, of %d", n, e, len(l))
	}
	f := fs.New(x.Copy())
	if n, e := act.Run(f, l); n != len(l) || e != api.OK {
		t.Errorf("Run is %d, %v, of %d", n, e, len(l))
	}
	checkAlike(t, f.Tree(), p.Tree())
}

// P21.5: the tasks, done on the tree, make the copy, without an error: of the longest plan, and of what is left behind Back.
func TestItFollows(t *testing.T) {
	checkFollows(t, tree.New(), filled(t, api.MaxTasks))
	for n := range len(good()) + 1 {
		p, _ := made(t, len(good()))
		for _, c := range failing {
			p.Do(c.x)
		}
		checkFollows(t, grown(t), p)
		p.Fail("/e", "file")
		p.Back(n)
		checkFollows(t, grown(t), p)
		checkDo(t, p, write("/e", "behind"), api.OK)
		checkDo(t, p, move("/a", "/aa"), api.OK)
		checkFollows(t, grown(t), p)
	}
}
