package tree_test

import (
	"slices"
	"strconv"
	"strings"
	"testing"

	"linhay/api"
	"linhay/name"
	"linhay/tree"
)

var (
	longName = strings.Repeat("n", api.MaxName)
	big      = strings.Repeat("d", api.MaxFile)
	// Names of all kinds: that may be, and that chapter 3 refuses, among them ways to nodes that are further below.
	anyNames = []string{"", ".", "..", "a", "b", "c", "d", "e", "f", "g", "h", "l", "B", "a/b", "/a", "a/", "a/c", "\x00", "...", "gcc-12", "gcc-9", "\xff", longName, longName + "n"}
	anyKinds = []int{-1, 0, api.Dir, api.File, api.Link, 4, 7}
	anyData  = []string{"", "x", "a/b", "\x00\xff", big, big + "d"}
)

// must answers the number of a node that is put, and ends the test if it isn't.
func must(t *testing.T, x *tree.Tree, dir int, s string, kind int, data string) int {
	t.Helper()
	n, e := x.Put(dir, s, kind, data)
	if e != api.OK || n == 0 {
		t.Fatalf("Put(%d, %.80q, %d, %.80q) = %d, %v", dir, s, kind, data, n, e)
	}
	return n
}

// checkErr holds an error against the one that is asked for.
func checkErr(t *testing.T, call string, got, want api.Errno) {
	t.Helper()
	if got != want {
		t.Errorf("%s: %v, not %v", call, got, want)
	}
}

// checkPut holds what Put answers against what is asked for.
func checkPut(t *testing.T, x *tree.Tree, dir int, s string, kind int, data string, n int, want api.Errno) {
	t.Helper()
	if got, e := x.Put(dir, s, kind, data); got != n || e != want {
		t.Errorf("Put(%d, %.80q, %d, %.80q) = %d, %v, not %d, %v", dir, s, kind, data, got, e, n, want)
	}
}

// checkNode holds what is told of a node against what is asked for; its entries are told as names, each with a blank and a number behind it.
func checkNode(t *testing.T, x *tree.Tree, n, kind int, data string, up int, list ...string) {
	t.Helper()
	if got := x.Kind(n); got != kind {
		t.Errorf("Kind(%d) = %d, not %d", n, got, kind)
	}
	if got := x.Data(n); got != data {
		t.Errorf("Data(%d) = %.80q, not %.80q", n, got, data)
	}
	if got := x.Up(n); got != up {
		t.Errorf("Up(%d) = %d, not %d", n, got, up)
	}
	if got := told(x.List(n)); !slices.Equal(got, list) {
		t.Errorf("List(%d) = %.80q, not %.80q", n, got, list)
	}
}

// checkNone holds what is told of a number against what is told of one that no node has.
func checkNone(t *testing.T, x *tree.Tree, n int) {
	t.Helper()
	checkNode(t, x, n, 0, "", 0)
}

// checkLen holds how many nodes there are against what is asked for.
func checkLen(t *testing.T, x *tree.Tree, want int) {
	t.Helper()
	if got := x.Len(); got != want {
		t.Errorf("Len() = %d, not %d", got, want)
	}
}

// told answers entries as texts.
func told(l []api.Ent) []string {
	var s []string
	for _, e := range l {
		s = append(s, e.Name+" "+strconv.Itoa(e.Node))
	}
	return s
}

// full answers a tree with as many nodes as there may be: 2 is a directory, 3 a file in it, all others are files at Root.
func full(t *testing.T) *tree.Tree {
	t.Helper()
	x := tree.New()
	must(t, x, must(t, x, tree.Root, "a", api.Dir, ""), "b", api.File, "")
	for n := x.Len(); n < api.MaxNodes; n++ {
		must(t, x, tree.Root, "f"+strconv.Itoa(n), api.File, "")
	}
	return x
}

// P7.1: a new tree has Root alone.
func TestNew(t *testing.T) {
	if tree.Root != 1 {
		t.Errorf("Root is %d", tree.Root)
	}
	x := tree.New()
	checkLen(t, x, 1)
	checkNode(t, x, tree.Root, api.Dir, "", tree.Root)
	for _, n := range []int{0, 2, 3, -1, 1 << 62, -1 << 63} {
		checkNone(t, x, n)
	}
	// New trees have nothing of one another.
	must(t, x, tree.Root, "a", api.Dir, "")
	checkLen(t, tree.New(), 1)
	checkNode(t, tree.New(), tree.Root, api.Dir, "", tree.Root)
}

// P7.1, P7.2: what is put is told, by numbers that are given from 2 on.
func TestPut(t *testing.T) {
	x := tree.New()
	checkPut(t, x, 1, "b", api.Dir, "", 2, api.OK)
	checkPut(t, x, 2, "c", api.File, "one", 3, api.OK)
	checkPut(t, x, 1, "l", api.Link, "b/c", 4, api.OK)
	checkPut(t, x, 1, "e", api.File, "", 5, api.OK)
	checkPut(t, x, 2, "a", api.Dir, "", 6, api.OK)
	checkPut(t, x, 6, "l", api.Link, "/", 7, api.OK)
	checkPut(t, x, 2, "B", api.File, "\x00\n\xff", 8, api.OK)
	checkPut(t, x, 1, longName, api.Link, big, 9, api.OK)
	checkPut(t, x, 1, "\xff", api.File, big, 10, api.OK)
	checkNode(t, x, 1, api.Dir, "", 1, "b 2", "e 5", "l 4", longName+" 9", "\xff 10")
	checkNode(t, x, 2, api.Dir, "", 1, "B 8", "a 6", "c 3")
	checkNode(t, x, 3, api.File, "one", 2)
	checkNode(t, x, 4, api.Link, "b/c", 1)
	checkNode(t, x, 5, api.File, "", 1)
	checkNode(t, x, 6, api.Dir, "", 2, "l 7")
	checkNode(t, x, 7, api.Link, "/", 6)
	checkNode(t, x, 8, api.File, "\x00\n\xff", 2)
	checkNode(t, x, 9, api.Link, big, 1)
	checkNode(t, x, 10, api.File, big, 1)
	checkNone(t, x, 11)
	checkLen(t, x, 10)
}

// P7.2: each error of Put, and of two that apply the one that is named first.
func TestPutErrors(t *testing.T) {
	x := tree.New()
	must(t, x, 1, "a", api.Dir, "")
	must(t, x, 2, "f", api.File, "")
	must(t, x, 2, "l", api.Link, "..")
	for _, n := range []int{0, 5, -1, -1 << 63} {
		checkPut(t, x, n, "z", api.File, "", 0, api.ErrNone)
		checkPut(t, x, n, "a/b", 9, big+"d", 0, api.ErrNone)
	}
	// A link to a directory is none.
	for _, n := range []int{3, 4} {
		checkPut(t, x, n, "z", api.File, "", 0, api.ErrNotDir)
		checkPut(t, x, n, "", 0, big+"d", 0, api.ErrNotDir)
	}
	for s, want := range map[string]api.Errno{"": api.ErrNone, ".": api.ErrExist, "..": api.ErrExist, "a/b": api.ErrName, "/": api.ErrName, "a\x00": api.ErrName, longName + "n": api.ErrName} {
		checkPut(t, x, 1, s, api.File, "", 0, want)
		checkPut(t, x, 1, s, 0, "", 0, want)
		checkPut(t, x, 1, s, api.Link, "", 0, want)
	}
	for dir, s := range map[int]string{1: "a", 2: "f"} {
		for _, kind := range anyKinds {
			for _, data := range anyData {
				checkPut(t, x, dir, s, kind, data, 0, api.ErrExist)
			}
		}
	}
	for _, kind := range []int{0, 4, -1, 1 << 62} {
		for _, data := range anyData {
			checkPut(t, x, 1, "z", kind, data, 0, api.ErrArg)
		}
	}
	for _, data := range anyData[1:] {
		checkPut(t, x, 1, "z", api.Dir, data, 0, api.ErrForm)
	}
	checkPut(t, x, 1, "z", api.Link, "", 0, api.ErrForm)
	checkPut(t, x, 1, "z", api.Link, big+"d", 0, api.ErrRange)
	checkPut(t, x, 1, "z", api.File, big+"d", 0, api.ErrRange)
	// Nothing is changed, and no number is lost.
	checkNode(t, x, 1, api.Dir, "", 1, "a 2")
	checkNode(t, x, 2, api.Dir, "", 1, "f 3", "l 4")
	checkLen(t, x, 4)
	checkPut(t, x, 1, "z", api.File, "", 5, api.OK)
}

// P7.2: MaxNodes nodes, and one more; all other errors go ahead.
func TestPutFull(t *testing.T) {
	x := full(t)
	checkLen(t, x, api.MaxNodes)
	for _, kind := range []int{api.Dir, api.File, api.Link} {
		data := ""
		if kind == api.Link {
			data = "a"
		}
		checkPut(t, x, 1, "z", kind, data, 0, api.ErrSpace)
		checkPut(t, x, 2, "z", kind, data, 0, api.ErrSpace)
	}
	checkPut(t, x, 0, "z", api.File, "", 0, api.ErrNone)
	checkPut(t, x, 3, "z", api.File, "", 0, api.ErrNotDir)
	checkPut(t, x, 1, "..", api.File, "", 0, api.ErrExist)
	checkPut(t, x, 1, "a", api.File, "", 0, api.ErrExist)
	checkPut(t, x, 1, "z", 0, "", 0, api.ErrArg)
	checkPut(t, x, 1, "z", api.Dir, "z", 0, api.ErrForm)
	checkPut(t, x, 1, "z", api.Link, "", 0, api.ErrForm)
	checkPut(t, x, 1, "z", api.File, big+"d", 0, api.ErrRange)
	// What needs no room is done all the same.
	checkErr(t, "Set", x.Set(3, big), api.OK)
	checkErr(t, "Move", x.Move(2, "b", 1, "b"), api.OK)
	checkLen(t, x, api.MaxNodes)
	// A copy is as full; and where one is gone there is room for one, with a number of its own.
	y := x.Copy()
	checkErr(t, "Cut", x.Cut(1, "a"), api.OK)
	checkPut(t, y, 1, "z", api.File, "", 0, api.ErrSpace)
	checkPut(t, x, 1, "z", api.File, "", api.MaxNodes+1, api.OK)
	checkPut(t, x, 1, "y", api.File, "", 0, api.ErrSpace)
	// One that is moved to another one's place makes room, too.
	checkErr(t, "Move", x.Move(1, "z", 1, "b"), api.OK)
	checkLen(t, x, api.MaxNodes-1)
	checkPut(t, x, 1, "y", api.File, "", api.MaxNodes+2, api.OK)
	checkPut(t, x, 1, "x", api.File, "", 0, api.ErrSpace)
}

// P7.1: no number is given twice, whatever is gone.
func TestNumbers(t *testing.T) {
	x := tree.New()
	checkPut(t, x, 1, "a", api.File, "", 2, api.OK)
	checkErr(t, "Cut", x.Cut(1, "a"), api.OK)
	checkPut(t, x, 1, "a", api.File, "", 3, api.OK)
	checkPut(t, x, 1, "b", api.File, "", 4, api.OK)
	checkErr(t, "Move", x.Move(1, "a", 1, "b"), api.OK)
	checkPut(t, x, 1, "a", api.File, "", 5, api.OK)
	checkErr(t, "Cut", x.Cut(1, "b"), api.OK)
	checkErr(t, "Cut", x.Cut(1, "a"), api.OK)
	y := x.Copy()
	for i := range 5000 {
		checkPut(t, x, 1, "a", api.File, "", 6+i, api.OK)
		checkErr(t, "Cut", x.Cut(1, "a"), api.OK)
	}
	checkPut(t, y, 1, "a", api.File, "", 6, api.OK)
}

// P7.2: Set of files and links.
func TestSet(t *testing.T) {
	x := tree.New()
	must(t, x, 1, "f", api.File, "one")
	must(t, x, 1, "l", api.Link, "f")
	must(t, x, 1, "d", api.Dir, "")
	for _, data := range []string{"two", "", "\x00\xff\n", "/", big, "x"} {
		checkErr(t, "Set of a file", x.Set(2, data), api.OK)
		checkNode(t, x, 2, api.File, data, 1)
		checkNode(t, x, 3, api.Link, "f", 1)
	}
	for _, data := range []string{"two", "..", "/", big, "y"} {
		checkErr(t, "Set of a link", x.Set(3, data), api.OK)
		checkNode(t, x, 3, api.Link, data, 1)
	}
	for _, data := range anyData {
		for _, n := range []int{0, 5, -1, -1 << 63} {
			checkErr(t, "Set of none", x.Set(n, data), api.ErrNone)
		}
		checkErr(t, "Set of Root", x.Set(1, data), api.ErrIsDir)
		checkErr(t, "Set of a directory", x.Set(4, data), api.ErrIsDir)
	}
	checkErr(t, "Set of a link, of nothing", x.Set(3, ""), api.ErrForm)
	checkErr(t, "Set of a link, of too much", x.Set(3, big+"d"), api.ErrRange)
	checkErr(t, "Set of a file, of too much", x.Set(2, big+"d"), api.ErrRange)
	checkNode(t, x, 1, api.Dir, "", 1, "d 4", "f 2", "l 3")
	checkNode(t, x, 2, api.File, "x", 1)
	checkNode(t, x, 3, api.Link, "y", 1)
	checkErr(t, "Cut", x.Cut(1, "f"), api.OK)
	checkErr(t, "Set of what is gone", x.Set(2, ""), api.ErrNone)
	checkNone(t, x, 2)
	checkLen(t, x, 3)
}

// P7.3: Cut of files, links and empty directories, and its errors.
func TestCut(t *testing.T) {
	x := tree.New()
	must(t, x, 1, "a", api.Dir, "")
	must(t, x, 2, "b", api.Dir, "")
	must(t, x, 3, "c", api.File, "f")
	must(t, x, 3, "l", api.Link, "c")
	for _, s := range anyNames {
		for _, n := range []int{0, 6, -1} {
			checkErr(t, "Cut of none", x.Cut(n, s), api.ErrNone)
		}
		checkErr(t, "Cut of a file", x.Cut(4, s), api.ErrNotDir)
		checkErr(t, "Cut of a link", x.Cut(5, s), api.ErrNotDir)
		if s != "a" {
			checkErr(t, "Cut of Root, of "+strconv.Quote(s), x.Cut(1, s), api.ErrNone)
		}
	}
	checkErr(t, "Cut", x.Cut(1, "a"), api.ErrNotEmpty)
	checkErr(t, "Cut", x.Cut(2, "b"), api.ErrNotEmpty)
	checkLen(t, x, 5)
	checkErr(t, "Cut", x.Cut(3, "c"), api.OK)
	checkNode(t, x, 3, api.Dir, "", 2, "l 5")
	checkErr(t, "Cut", x.Cut(3, "c"), api.ErrNone)
	checkErr(t, "Cut", x.Cut(2, "b"), api.ErrNotEmpty)
	checkErr(t, "Cut", x.Cut(3, "l"), api.OK)
	checkNode(t, x, 3, api.Dir, "", 2)
	checkErr(t, "Cut", x.Cut(2, "b"), api.OK)
	checkErr(t, "Cut", x.Cut(3, "l"), api.ErrNone)
	checkErr(t, "Cut", x.Cut(1, "a"), api.OK)
	checkNode(t, x, 1, api.Dir, "", 1)
	for n := 2; n < 7; n++ {
		checkNone(t, x, n)
	}
	checkLen(t, x, 1)
}

// P7.3: Move to other names and directories, nodes and what is in them staying the same.
func TestMove(t *testing.T) {
	x := tree.New()
	must(t, x, 1, "a", api.Dir, "")
	must(t, x, 2, "b", api.Dir, "")
	must(t, x, 3, "f", api.File, "one")
	must(t, x, 1, "d", api.Dir, "")
	must(t, x, 1, "l", api.Link, "a/b")
	checkErr(t, "to another name", x.Move(2, "b", 2, "c"), api.OK)
	checkNode(t, x, 2, api.Dir, "", 1, "c 3")
	checkNode(t, x, 3, api.Dir, "", 2, "f 4")
	checkErr(t, "to another directory", x.Move(2, "c", 5, longName), api.OK)
	checkNode(t, x, 2, api.Dir, "", 1)
	checkNode(t, x, 5, api.Dir, "", 1, longName+" 3")
	checkNode(t, x, 3, api.Dir, "", 5, "f 4")
	checkNode(t, x, 4, api.File, "one", 3)
	checkErr(t, "to the one above", x.Move(3, "f", 1, "f"), api.OK)
	checkNode(t, x, 1, api.Dir, "", 1, "a 2", "d 5", "f 4", "l 6")
	checkNode(t, x, 3, api.Dir, "", 5)
	checkNode(t, x, 4, api.File, "one", 1)
	checkErr(t, "a link", x.Move(1, "l", 3, "f"), api.OK)
	checkNode(t, x, 6, api.Link, "a/b", 3)
	checkErr(t, "a directory beside it", x.Move(1, "a", 3, "a"), api.OK)
	checkNode(t, x, 1, api.Dir, "", 1, "d 5", "f 4")
	checkNode(t, x, 3, api.Dir, "", 5, "a 2", "f 6")
	checkNode(t, x, 2, api.Dir, "", 3)
	checkErr(t, "ahead in its directory", x.Move(3, "f", 3, "B"), api.OK)
	checkNode(t, x, 3, api.Dir, "", 5, "B 6", "a 2")
	checkLen(t, x, 6)
}

// P7.3: the errors of Move that stand ahead of what is in the place, and of two that apply the one that is named first.
func TestMoveErrors(t *testing.T) {
	x := tree.New()
	must(t, x, 1, "a", api.Dir, "")
	must(t, x, 2, "b", api.Dir, "")
	must(t, x, 3, "f", api.File, "")
	must(t, x, 3, "l", api.Link, "..")
	for _, s := range anyNames {
		for _, to := range []int{0, 1, 4, 5, 9} {
			checkErr(t, "from none", x.Move(0, s, to, s), api.ErrNone)
			checkErr(t, "from none", x.Move(9, s, to, s), api.ErrNone)
			checkErr(t, "from a file", x.Move(4, s, to, s), api.ErrNotDir)
			checkErr(t, "from a link", x.Move(5, s, to, s), api.ErrNotDir)
		}
		checkErr(t, "to none", x.Move(1, s, 0, s), api.ErrNone)
		checkErr(t, "to none", x.Move(1, s, 9, s), api.ErrNone)
		checkErr(t, "to a file", x.Move(1, s, 4, s), api.ErrNotDir)
		checkErr(t, "to a link", x.Move(1, s, 5, s), api.ErrNotDir)
		if s != "f" && s != "l" {
			checkErr(t, "a name that isn't there", x.Move(3, s, 1, ".."), api.ErrNone)
			checkErr(t, "a name that isn't there", x.Move(3, s, 1, "a"), api.ErrNone)
		}
	}
	for as, want := range map[string]api.Errno{"": api.ErrNone, ".": api.ErrExist, "..": api.ErrExist, "a/b": api.ErrName, "\x00": api.ErrName, longName + "n": api.ErrName} {
		checkErr(t, "a file, to a name that may not be", x.Move(3, "f", 1, as), want)
		checkErr(t, "a directory, to such a name within itself", x.Move(1, "a", 3, as), want)
	}
	for _, as := range []string{"a", "b", "f", "l", "z"} {
		checkErr(t, "into itself", x.Move(1, "a", 2, as), api.ErrInside)
		checkErr(t, "deeper into itself", x.Move(1, "a", 3, as), api.ErrInside)
		checkErr(t, "into itself", x.Move(2, "b", 3, as), api.ErrInside)
	}
	checkNode(t, x, 1, api.Dir, "", 1, "a 2")
	checkNode(t, x, 2, api.Dir, "", 1, "b 3")
	checkNode(t, x, 3, api.Dir, "", 2, "f 4", "l 5")
	checkLen(t, x, 5)
}

// P7.3: Move to a name that is taken, each kind by each other one, from another directory and from the same one.
func TestMoveReplaces(t *testing.T) {
	things := []struct {
		kind   int
		data   string
		filled bool
	}{{api.File, "one", false}, {api.File, "", false}, {api.Link, "file", false}, {api.Dir, "", false}, {api.Dir, "", true}}
	for _, old := range things {
		for _, c := range things {
			for _, same := range []bool{false, true} {
				x := tree.New()
				from := must(t, x, 1, "from", api.Dir, "")
				to := from
				if !same {
					to = must(t, x, 1, "to", api.Dir, "")
				}
				n, there := must(t, x, from, "n", c.kind, c.data), must(t, x, to, "there", old.kind, old.data)
				if c.filled {
					must(t, x, n, "x", api.File, "")
				}
				if old.filled {
					must(t, x, there, "y", api.File, "")
				}
				want := api.OK
				switch {
				case old.kind == api.Dir && c.kind != api.Dir:
					want = api.ErrIsDir
				case old.kind != api.Dir && c.kind == api.Dir:
					want = api.ErrNotDir
				case old.filled:
					want = api.ErrNotEmpty
				}
				checkReplaced(t, x, from, n, to, there, want)
			}
		}
	}
}

// checkReplaced moves n, by that name in from, to the name there in to, and holds the error, and what stands there then, against what is asked for.
func checkReplaced(t *testing.T, x *tree.Tree, from, n, to, there int, want api.Errno) {
	t.Helper()
	length, kind, data, list := x.Len(), x.Kind(n), x.Data(n), told(x.List(n))
	oldKind, oldData, oldList := x.Kind(there), x.Data(there), told(x.List(there))
	checkErr(t, "Move", x.Move(from, "n", to, "there"), want)
	if want != api.OK {
		checkNode(t, x, n, kind, data, from, list...)
		checkNode(t, x, there, oldKind, oldData, to, oldList...)
		checkLen(t, x, length)
		return
	}
	checkNone(t, x, there)
	checkNode(t, x, n, kind, data, to, list...)
	checkNode(t, x, to, api.Dir, "", 1, "there "+strconv.Itoa(n))
	if from != to {
		checkNode(t, x, from, api.Dir, "", 1)
	}
	checkLen(t, x, length-1)
}

// P7.3: Move of a node to where it stands is done, and changes nothing, also of a directory with names.
func TestMoveToItself(t *testing.T) {
	x := tree.New()
	must(t, x, 1, "a", api.Dir, "")
	must(t, x, 2, "b", api.Dir, "")
	must(t, x, 2, "f", api.File, "one")
	must(t, x, 2, "l", api.Link, "f")
	for _, s := range []string{"b", "f", "l"} {
		checkErr(t, "Move of "+s, x.Move(2, s, 2, s), api.OK)
	}
	checkErr(t, "Move of a", x.Move(1, "a", 1, "a"), api.OK)
	checkNode(t, x, 1, api.Dir, "", 1, "a 2")
	checkNode(t, x, 2, api.Dir, "", 1, "b 3", "f 4", "l 5")
	checkNode(t, x, 3, api.Dir, "", 2)
	checkNode(t, x, 4, api.File, "one", 2)
	checkNode(t, x, 5, api.Link, "f", 2)
	checkLen(t, x, 5)
}

// P7.3: Move to the place of a directory that the node stands in, at any depth.
func TestMoveToWhatIsAbove(t *testing.T) {
	x := tree.New()
	must(t, x, 1, "a", api.Dir, "")
	must(t, x, 2, "b", api.Dir, "")
	must(t, x, 3, "c", api.Dir, "")
	must(t, x, 3, "f", api.File, "")
	for _, c := range []struct {
		to int
		as string
	}{{1, "a"}, {2, "b"}} {
		checkErr(t, "Move of c", x.Move(3, "c", c.to, c.as), api.ErrNotEmpty)
		checkErr(t, "Move of f", x.Move(3, "f", c.to, c.as), api.ErrIsDir)
	}
	checkErr(t, "Move of b", x.Move(2, "b", 1, "a"), api.ErrNotEmpty)
	checkNode(t, x, 3, api.Dir, "", 2, "c 4", "f 5")
	checkLen(t, x, 5)
}

// P7.3: directories that stand in one another as deep as there are nodes: to go into itself is refused at any depth, and calls end soon.
func TestDeep(t *testing.T) {
	x := tree.New()
	for n := 1; n < api.MaxNodes-1; n++ {
		checkPut(t, x, n, "d", api.Dir, "", n+1, api.OK)
	}
	end := api.MaxNodes - 1
	checkPut(t, x, end, "f", api.File, "", end+1, api.OK)
	for to := 2; to <= end; to++ {
		checkErr(t, "Move of the first", x.Move(1, "d", to, "z"), api.ErrInside)
	}
	checkErr(t, "Move of the 1000th", x.Move(1000, "d", end, "z"), api.ErrInside)
	checkErr(t, "Move of the 1000th", x.Move(1000, "d", 1001, "z"), api.ErrInside)
	checkErr(t, "Move of the 1000th", x.Move(1000, "d", 999, "z"), api.OK)
	checkNode(t, x, 999, api.Dir, "", 998, "d 1000", "z 1001")
	checkErr(t, "Move back", x.Move(999, "z", 1000, "d"), api.OK)
	checkErr(t, "Move of the file", x.Move(end, "f", 1, "f"), api.OK)
	checkNode(t, x, 1, api.Dir, "", 1, "d 2", "f "+strconv.Itoa(end+1))
	for n := end; n > 1; n-- {
		checkErr(t, "Cut", x.Cut(n-1, "d"), api.OK)
	}
	checkLen(t, x, 2)
}

// P7.4: a copy is as the tree, and what is done to one changes nothing of the other.
func TestCopy(t *testing.T) {
	changes := []call{
		{kind: 'p', from: 1, name: "h", node: api.File, data: "new"}, {kind: 'p', from: 3, name: "a", node: api.Dir}, {kind: 's', from: 4, data: "three"}, {kind: 's', from: 8, data: "b"}, {kind: 'c', from: 3, name: "f"}, {kind: 'c', from: 1, name: "l"}, {kind: 'c', from: 1, name: "c"},
		{kind: 'm', from: 3, name: "f", to: 3, as: "g"}, {kind: 'm', from: 3, name: "f", to: 1, as: "l"}, {kind: 'm', from: 2, name: "b", to: 1, as: "c"}, {kind: 'm', from: 1, name: "l", to: 3, as: "z"}, {kind: 'm', from: 1, name: "a", to: 5, as: "a"},
	}
	for _, c := range changes {
		x, m := grown(t)
		y, was := x.Copy(), m.clone()
		checkLike(t, y, m)
		both(t, x, &m, c)
		checkLike(t, y, was)
		for _, d := range changes {
			z, other := y.Copy(), was.clone()
			both(t, z, &other, d)
			checkLike(t, y, was)
			checkLike(t, x, m)
			// What was done to the copy is done to the tree, with the same numbers.
			both(t, z, &other, c)
		}
	}
}

// P7.4: both the tree and its copy give the same numbers, each its own.
func TestCopyNumbers(t *testing.T) {
	x := tree.New()
	must(t, x, 1, "a", api.Dir, "")
	must(t, x, 1, "b", api.File, "")
	checkErr(t, "Cut", x.Cut(1, "b"), api.OK)
	y := x.Copy()
	checkPut(t, x, 1, "c", api.File, "x", 4, api.OK)
	checkPut(t, y, 2, "d", api.Dir, "", 4, api.OK)
	checkPut(t, y, 4, "e", api.Dir, "", 5, api.OK)
	checkPut(t, x, 2, "f", api.File, "", 5, api.OK)
	checkNode(t, x, 4, api.File, "x", 1)
	checkNode(t, y, 4, api.Dir, "", 2, "e 5")
	checkNode(t, x, 5, api.File, "", 2)
	checkNode(t, y, 5, api.Dir, "", 4)
}

// P7.5: of a nil tree.
func TestNil(t *testing.T) {
	var x *tree.Tree
	for _, n := range []int{0, 1, 2, -1} {
		checkNone(t, x, n)
		for _, s := range []string{"a", "", "a/b", ".."} {
			for _, kind := range anyKinds {
				checkPut(t, x, n, s, kind, "", 0, api.ErrNil)
				checkPut(t, x, n, s, kind, big+"d", 0, api.ErrNil)
			}
			checkErr(t, "Cut", x.Cut(n, s), api.ErrNil)
			checkErr(t, "Move", x.Move(n, s, n, s), api.ErrNil)
			checkErr(t, "Move", x.Move(n, "a", 1, s), api.ErrNil)
		}
		checkErr(t, "Set", x.Set(n, ""), api.ErrNil)
		checkErr(t, "Set", x.Set(n, big+"d"), api.ErrNil)
	}
	checkLen(t, x, 0)
	if x.Copy() != nil {
		t.Error("Copy of a nil tree isn't nil")
	}
}

// R3: what List answers is new memory, and what is done to the tree leaves it as it is.
func TestNewMemory(t *testing.T) {
	x, m := tree.New(), newModel()
	for _, s := range []string{"b", "d", "a", "c"} {
		both(t, x, &m, call{kind: 'p', from: 1, name: s, node: api.File})
	}
	y := x.Copy()
	l := x.List(1)
	was := slices.Clone(l)
	for i := range l {
		l[i] = api.Ent{Name: "changed", Node: 99}
	}
	_ = append(l[:1], api.Ent{Name: "changed", Node: 99})
	checkLike(t, x, m)
	checkLike(t, y, m)
	kept := x.List(1)
	for _, c := range []call{{kind: 'c', from: 1, name: "a"}, {kind: 'p', from: 1, name: "a", node: api.Dir}, {kind: 'm', from: 1, name: "b", to: 1, as: "d"}, {kind: 'm', from: 1, name: "c", to: 6, as: "c"}} {
		both(t, x, &m, c)
		if !slices.Equal(kept, was) {
			t.Fatalf("a list that was answered is changed to %q", told(kept))
		}
	}
}

// model is a tree as a plain reference: nodes by their paths.
type model struct {
	nodes map[string]spot
	last  int
}

// spot is what a model keeps of a node.
type spot struct {
	n, kind int
	data    string
}

// call is a Put, Set, Cut or Move, by its first letter; node is the kind of the node that is put.
type call struct {
	kind byte
	from int
	name string
	to   int
	as   string
	node int
	data string
}

// newModel answers a model of Root alone, whose path is empty.
func newModel() model {
	return model{nodes: map[string]spot{"": {n: tree.Root, kind: api.Dir}}, last: tree.Root}
}

// clone answers a model that is as this one.
func (m model) clone() model {
	nodes := map[string]spot{}
	for p, s := range m.nodes {
		nodes[p] = s
	}
	return model{nodes: nodes, last: m.last}
}

// where answers a node's path.
func (m model) where(n int) (string, bool) {
	for p, s := range m.nodes {
		if s.n == n {
			return p, true
		}
	}
	return "", false
}

// dir answers a directory's path, or why there is none.
func (m model) dir(n int) (string, api.Errno) {
	p, ok := m.where(n)
	if !ok {
		return "", api.ErrNone
	}
	if m.nodes[p].kind != api.Dir {
		return "", api.ErrNotDir
	}
	return p, api.OK
}

// has tells whether a name stands in a directory.
func (m model) has(p, name string) bool {
	_, ok := m.nodes[p+"/"+name]
	return ok && !strings.Contains(name, "/")
}

// empty tells whether nothing stands below a path.
func (m model) empty(p string) bool {
	for q := range m.nodes {
		if strings.HasPrefix(q, p+"/") {
			return false
		}
	}
	return true
}

// do does a call, and answers the number and the error that the chapter asks for.
func (m *model) do(c call) (int, api.Errno) {
	switch c.kind {
	case 'p':
		return m.put(c)
	case 's':
		return 0, m.set(c)
	case 'c':
		return 0, m.cut(c)
	}
	return 0, m.move(c)
}

func (m *model) put(c call) (int, api.Errno) {
	p, e := m.dir(c.from)
	switch {
	case e != api.OK:
		return 0, e
	case name.Check(c.name) != api.OK:
		return 0, name.Check(c.name)
	case m.has(p, c.name):
		return 0, api.ErrExist
	case c.node < 1 || c.node > 3:
		return 0, api.ErrArg
	case c.node == api.Dir && c.data != "" || c.node == api.Link && c.data == "":
		return 0, api.ErrForm
	case len(c.data) > 65536:
		return 0, api.ErrRange
	case len(m.nodes) == 4096:
		return 0, api.ErrSpace
	}
	m.last++
	m.nodes[p+"/"+c.name] = spot{m.last, c.node, c.data}
	return m.last, api.OK
}

func (m *model) set(c call) api.Errno {
	p, ok := m.where(c.from)
	s := m.nodes[p]
	switch {
	case !ok:
		return api.ErrNone
	case s.kind == api.Dir:
		return api.ErrIsDir
	case s.kind == api.Link && c.data == "":
		return api.ErrForm
	case len(c.data) > 65536:
		return api.ErrRange
	}
	m.nodes[p] = spot{s.n, s.kind, c.data}
	return api.OK
}

func (m *model) cut(c call) api.Errno {
	p, e := m.dir(c.from)
	switch {
	case e != api.OK:
		return e
	case !m.has(p, c.name):
		return api.ErrNone
	case !m.empty(p + "/" + c.name):
		return api.ErrNotEmpty
	}
	delete(m.nodes, p+"/"+c.name)
	return api.OK
}

func (m *model) move(c call) api.Errno {
	from, e := m.dir(c.from)
	to, f := m.dir(c.to)
	a, b := from+"/"+c.name, to+"/"+c.as
	switch {
	case e != api.OK:
		return e
	case f != api.OK:
		return f
	case !m.has(from, c.name):
		return api.ErrNone
	case name.Check(c.as) != api.OK:
		return name.Check(c.as)
	case strings.HasPrefix(to+"/", a+"/"):
		return api.ErrInside
	case a == b:
		return api.OK
	}
	if old, ok := m.nodes[b]; ok {
		switch is, was := m.nodes[a].kind == api.Dir, old.kind == api.Dir; {
		case was && !is:
			return api.ErrIsDir
		case is && !was:
			return api.ErrNotDir
		case !m.empty(b):
			return api.ErrNotEmpty
		}
	}
	moved := map[string]spot{}
	for p, s := range m.nodes {
		if p == a || strings.HasPrefix(p, a+"/") {
			moved[b+p[len(a):]] = s
			delete(m.nodes, p)
		}
	}
	for p, s := range moved {
		m.nodes[p] = s
	}
	return api.OK
}

// both does a call on a tree and on its model, and holds what they answer, and what comes of it, against each other.
func both(t *testing.T, x *tree.Tree, m *model, c call) {
	t.Helper()
	n, e := 0, api.OK
	switch c.kind {
	case 'p':
		n, e = x.Put(c.from, c.name, c.node, c.data)
	case 's':
		e = x.Set(c.from, c.data)
	case 'c':
		e = x.Cut(c.from, c.name)
	default:
		e = x.Move(c.from, c.name, c.to, c.as)
	}
	if want, f := m.do(c); n != want || e != f {
		c.data = c.data[:min(len(c.data), 20)]
		t.Errorf("%c %+v: %d, %v, not %d, %v", c.kind, c, n, e, want, f)
	}
	checkLike(t, x, *m)
}

// checkLike holds all that is told of a tree against its model, numbers that no node has among it.
func checkLike(t *testing.T, x *tree.Tree, m model) {
	t.Helper()
	checkLen(t, x, len(m.nodes))
	lists, ups := map[int][]string{}, map[int]int{tree.Root: tree.Root}
	nodes := map[int]spot{}
	for p, s := range m.nodes {
		nodes[s.n] = s
		if i := strings.LastIndexByte(p, '/'); i >= 0 {
			up := m.nodes[p[:i]].n
			ups[s.n] = up
			lists[up] = append(lists[up], p[i+1:]+"\x00"+strconv.Itoa(s.n))
		}
	}
	for n := -1; n <= m.last+2; n++ {
		list := lists[n]
		slices.Sort(list)
		for i := range list {
			list[i] = strings.Replace(list[i], "\x00", " ", 1)
		}
		checkNode(t, x, n, nodes[n].kind, nodes[n].data, ups[n], list...)
	}
	checkStands(t, x, m.last)
}

// checkStands holds a tree against P7.6: from Root on each node is come to once, by a name that may be, in the directory that it tells.
func checkStands(t *testing.T, x *tree.Tree, last int) {
	t.Helper()
	seen := map[int]int{tree.Root: 1}
	for l := []int{tree.Root}; len(l) > 0; l = l[1:] {
		ahead := ""
		for _, e := range x.List(l[0]) {
			if !name.Right(e.Name) || e.Name <= ahead || x.Up(e.Node) != l[0] || x.Kind(e.Node) == 0 {
				t.Errorf("%q stands in %d as %d", e.Name, l[0], e.Node)
			}
			ahead = e.Name
			if seen[e.Node]++; seen[e.Node] > 1 {
				t.Fatalf("%d stands at several places", e.Node)
			}
			l = append(l, e.Node)
		}
	}
	for n := range last + 3 {
		if (x.Kind(n) != 0) != (seen[n] == 1) {
			t.Errorf("%d is a node that stands nowhere", n)
		}
	}
	checkLen(t, x, len(seen))
}

// grown answers a tree with nodes of all kinds, numbers that are gone, directories with and without names, and its model.
func grown(t *testing.T) (*tree.Tree, model) {
	t.Helper()
	x, m := tree.New(), newModel()
	for _, c := range []call{
		{kind: 'p', from: 1, name: "a", node: api.Dir}, {kind: 'p', from: 2, name: "b", node: api.Dir}, {kind: 'p', from: 3, name: "f", node: api.File, data: "one"},
		{kind: 'p', from: 1, name: "c", node: api.Dir}, {kind: 'p', from: 2, name: "c", node: api.Dir}, {kind: 'p', from: 1, name: "h", node: api.File}, {kind: 'c', from: 1, name: "h"},
		{kind: 'p', from: 1, name: "l", node: api.Link, data: "a"}, {kind: 'p', from: 2, name: "g", node: api.File}, {kind: 'p', from: 3, name: "l", node: api.Link, data: ".."}, {kind: 'p', from: 1, name: "e", node: api.File, data: "two"},
	} {
		both(t, x, &m, c)
	}
	return x, m
}

// P7.2, P7.3: of a tree with nodes of all kinds each call answers, and does, what the reference does, whatever it is given.
func TestLikeReference(t *testing.T) {
	x, m := grown(t)
	try := func(c call) {
		t.Helper()
		if t.Failed() {
			t.FailNow()
		}
		y, other := x.Copy(), m.clone()
		both(t, y, &other, c)
	}
	for n := -1; n <= m.last+1; n++ {
		for _, data := range anyData {
			try(call{kind: 's', from: n, data: data})
			for _, kind := range anyKinds {
				for _, s := range anyNames {
					try(call{kind: 'p', from: n, name: s, node: kind, data: data})
				}
			}
		}
		for _, s := range anyNames {
			try(call{kind: 'c', from: n, name: s})
		}
	}
	checkLike(t, x, m)
	few := []string{"", ".", "..", "a", "b", "c", "e", "f", "g", "h", "l", "a/b", "B", "zz"}
	for from := 0; from <= m.last+1; from++ {
		for to := 0; to <= m.last+1; to++ {
			for _, s := range few {
				for _, as := range few {
					try(call{kind: 'm', from: from, name: s, to: to, as: as})
				}
			}
		}
	}
	checkLike(t, x, m)
}

// P7.1 to P7.6: calls one behind the other, and copies between them, as the reference has it.
func TestOneBehindTheOther(t *testing.T) {
	// Numbers that jump about, the same ones each time.
	turn := 1
	next := func(n int) int {
		turn = turn * 48271 % (1<<31 - 1)
		return turn / 7 % n
	}
	few := []string{"a", "b", "c", "d"}
	for range 40 {
		x, m := tree.New(), newModel()
		for range 200 {
			c := call{kind: "pppscmmmmm"[next(10)], from: next(m.last+1) + 1, name: few[next(4)], to: next(m.last+1) + 1, as: few[next(4)], node: 1 + next(3), data: []string{"", "x", "y"}[next(3)]}
			if c.node == api.Dir {
				c.data = ""
			}
			both(t, x, &m, c)
			if next(8) == 0 {
				y, was := x, m.clone()
				x = x.Copy()
				both(t, y, &was, call{kind: 'p', from: 1, name: "gone", node: api.File})
			}
			if t.Failed() {
				return
			}
		}
	}
}

// All short rows of calls on few nodes: what comes of each is as the reference has it.
func TestAllShortRows(t *testing.T) {
	var calls []call
	for dir := 1; dir <= 3; dir++ {
		for _, s := range []string{"a", "b"} {
			calls = append(calls, call{kind: 'p', from: dir, name: s, node: api.Dir}, call{kind: 'p', from: dir, name: s, node: api.File, data: "f"}, call{kind: 'c', from: dir, name: s})
			for to := 1; to <= 3; to++ {
				for _, as := range []string{"a", "b"} {
					calls = append(calls, call{kind: 'm', from: dir, name: s, to: to, as: as})
				}
			}
		}
	}
	var rest func(x *tree.Tree, m model, n int)
	rest = func(x *tree.Tree, m model, n int) {
		for _, c := range calls {
			// A call that is refused as early as this leads nowhere new.
			if c.from > m.last || c.to > m.last || t.Failed() {
				continue
			}
			y, other := x.Copy(), m.clone()
			both(t, y, &other, c)
			if n > 1 {
				rest(y, other, n-1)
			}
		}
	}
	rest(tree.New(), newModel(), 4)
}
