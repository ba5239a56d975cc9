package ents_test

import (
	"maps"
	"slices"
	"strconv"
	"strings"
	"testing"

	"linhay/api"
	"linhay/ents"
)

var (
	long = strings.Repeat("n", 100000)
	// Names that rise, byte by byte: neither by numbers, nor by letters great and small, nor by lengths.
	names = []string{"", "\x00", "\x00\x00", "\t", " ", "!", "-", ".", "..", "/", "10", "9", "A", "B", "a", "a\x00", "a ", "a-b", "a.b", "a10", "a2", "aa", "ab", "b", "gcc-12", "gcc-9", long, long + "n", "z", "\x7f", "\x80", "\u00e4", "\uff41", "\U0001f600", "\xff", "\xff\xff"}
	// Lists that may not be: of each what is wrong stands elsewhere.
	wrong = [][]api.Ent{
		list("a 1", "a 1"), list("a 1", "a 2"), list("b 1", "a 2"), list(" 1", " 2"), list("a 1", " 2"),
		list("a 1", "b 2", "b 3"), list("a 1", "a 2", "b 3"), list("a 1", "b 2", "a 3"), list("b 1", "a 2", "c 3"), list("a 1", "c 2", "b 3"), list("c 1", "b 2", "a 3"), list("b 1", "c 2", "a 3"), list("c 1", "a 2", "b 3"),
		list("a 1", "b 2", "c 3", "c 3"), list("a 1", "b 2", "d 3", "c 4"), list("a 1", "c 2", "b 3", "d 4"), list("b 1", "a 2", "c 3", "d 4"), list("a 1", "a 2", "b 3", "b 4"),
		list("a 1", "B 2"), list("gcc-9 1", "gcc-12 2"), list("aa 1", "b 2", "a 3"), list("\xff 1", "\U0001f600 2"), list("a\x00 1", "a 2"),
	}
)

// list answers entries that are told as a name, a blank, and a number.
func list(told ...string) []api.Ent {
	var l []api.Ent
	for _, s := range told {
		i := strings.LastIndexByte(s, ' ')
		n, err := strconv.Atoi(s[i+1:])
		if err != nil {
			panic(err)
		}
		l = append(l, api.Ent{Name: s[:i], Node: n})
	}
	return l
}

// tell answers entries as a short text.
func tell(l []api.Ent) string {
	told := strconv.Itoa(len(l)) + " entries:"
	for _, e := range l[:min(len(l), 40)] {
		told += " " + strconv.Quote(e.Name[:min(len(e.Name), 20)]) + " " + strconv.Itoa(e.Node)
	}
	return told
}

// numbered answers entries of the names, with nodes from first on.
func numbered(names []string, first int) []api.Ent {
	var l []api.Ent
	for i, s := range names {
		l = append(l, api.Ent{Name: s, Node: first + i})
	}
	return l
}

// checkList holds entries that a call answers against those that are asked for, and against Right.
func checkList(t *testing.T, call string, got, want []api.Ent) {
	t.Helper()
	if !slices.Equal(got, want) || !ents.Right(got) {
		t.Errorf("%.80q: %s, not %s", call, tell(got), tell(want))
	}
}

// checkNamed holds what Find and Next answer of a name against what is asked for: a node, and an entry; nil where there is none.
func checkNamed(t *testing.T, l []api.Ent, name string, node *int, next *api.Ent) {
	t.Helper()
	n, ok := ents.Find(l, name)
	if want := deref(node); ok != (node != nil) || n != want {
		t.Errorf("Find(%s, %.80q) = %d, %v, not %d, %v", tell(l), name, n, ok, want, node != nil)
	}
	e, ok := ents.Next(l, name)
	if want := deref(next); ok != (next != nil) || e != want {
		t.Errorf("Next(%s, %.80q) = %.80q %d, %v, not %.80q %d, %v", tell(l), name, e.Name, e.Node, ok, want.Name, want.Node, next != nil)
	}
}

// deref answers what p leads to, and a zero value of nil.
func deref[T any](p *T) T {
	var zero T
	if p == nil {
		return zero
	}
	return *p
}

// P6.1: Right of lists that may be, whatever their names and nodes, and of those that may not.
func TestRight(t *testing.T) {
	for _, l := range [][]api.Ent{
		nil, {}, list("a 1"), list(" 0"), list("a 1", "b 1"), list("a 2", "b 1"), list("a 0", "b -1", "c 0"), list(" 1", "a 2"), list(" 1", "\x00 2"), list("a 1", "a\x00 2"), list("B 1", "a 2"), list("gcc-12 1", "gcc-9 2"), list("a 1", "aa 2", "b 3"), list("\U0001f600 1", "\xff 2"),
		list(". 1", ".. 2", "/ 3"), numbered(names, 1), numbered(names[1:], -3),
	} {
		if !ents.Right(l) {
			t.Errorf("Right(%s) is false", tell(l))
		}
	}
	for _, l := range wrong {
		if ents.Right(l) {
			t.Errorf("Right(%s) is true", tell(l))
		}
	}
}

// P6.1: of a list with a fault at any one place Right is false.
func TestRightEachPlace(t *testing.T) {
	l := numbered(names, 1)
	for i := 1; i < len(l); i++ {
		turned := slices.Clone(l)
		turned[i-1], turned[i] = l[i], l[i-1]
		twice := slices.Insert(slices.Clone(l), i, api.Ent{Name: l[i].Name, Node: 99})
		again := append(slices.Clone(l), l[i])
		for _, bad := range [][]api.Ent{turned, twice, again, twice[:i+2], turned[i-1:]} {
			if ents.Right(bad) {
				t.Errorf("place %d: Right(%s) is true", i, tell(bad))
			}
		}
	}
}

// P6.1, P6.2: Find and Next of names that are there, and of those ahead of, between and behind them.
func TestNamed(t *testing.T) {
	l := numbered(names, 10)
	for i, s := range names {
		next := (*api.Ent)(nil)
		if i+1 < len(l) {
			next = &l[i+1]
		}
		checkNamed(t, l, s, &l[i].Node, next)
		without := slices.Delete(slices.Clone(l), i, i+1)
		checkNamed(t, without, s, nil, next)
		checkNamed(t, l[:i], s, nil, nil)
		checkNamed(t, l[:i+1], s, &l[i].Node, nil)
		checkNamed(t, l[i:], s, &l[i].Node, next)
		checkNamed(t, l[i:i+1], s, &l[i].Node, nil)
		checkNamed(t, l[i+1:], s, nil, next)
	}
	checkNamed(t, l, "\xff\xff\x00", nil, nil)
	ac := list("a 1", "c 3")
	a, c := &ac[0], &ac[1]
	for _, s := range []string{"", "A", "\x00", "Z"} {
		checkNamed(t, ac, s, nil, a)
	}
	checkNamed(t, ac, "a", &a.Node, c)
	for _, s := range []string{"a\x00", "aa", "az", "b", "bb"} {
		checkNamed(t, ac, s, nil, c)
	}
	checkNamed(t, ac, "c", &c.Node, nil)
	for _, s := range []string{"c\x00", "ca", "d", "\x80", "\xff"} {
		checkNamed(t, ac, s, nil, nil)
	}
}

// P6.1, P6.2: Find and Next of nodes of any numbers, and of no entries.
func TestNamedEdges(t *testing.T) {
	for _, n := range []int{0, -1, 1, 1 << 62, -1 << 63} {
		l := []api.Ent{{Name: "b", Node: n}}
		checkNamed(t, l, "a", nil, &l[0])
		checkNamed(t, l, "b", &n, nil)
		checkNamed(t, l, "c", nil, nil)
	}
	for _, s := range []string{"", "a", long, "\xff"} {
		checkNamed(t, nil, s, nil, nil)
		checkNamed(t, []api.Ent{}, s, nil, nil)
	}
}

// P6.1: Put of names that are there, whose place is taken, and of those that aren't.
func TestPut(t *testing.T) {
	for _, c := range []struct {
		l    []api.Ent
		e    api.Ent
		want []api.Ent
	}{
		{nil, api.Ent{Name: "a", Node: 1}, list("a 1")}, {nil, api.Ent{}, list(" 0")}, {[]api.Ent{}, api.Ent{Name: "a", Node: -1}, list("a -1")},
		{list("b 2"), api.Ent{Name: "a", Node: 9}, list("a 9", "b 2")}, {list("b 2"), api.Ent{Name: "b", Node: 9}, list("b 9")}, {list("b 2"), api.Ent{Name: "c", Node: 9}, list("b 2", "c 9")}, {list("b 2"), api.Ent{Name: "", Node: 2}, list(" 2", "b 2")}, {list(" 2"), api.Ent{Name: "", Node: 3}, list(" 3")},
		{list("b 2"), api.Ent{Name: "b", Node: 2}, list("b 2")}, {list("b 2"), api.Ent{Name: "b"}, list("b 0")},
		{list("a 1", "c 3"), api.Ent{Name: "a", Node: 9}, list("a 9", "c 3")}, {list("a 1", "c 3"), api.Ent{Name: "b", Node: 9}, list("a 1", "b 9", "c 3")}, {list("a 1", "c 3"), api.Ent{Name: "c", Node: 9}, list("a 1", "c 9")}, {list("a 1", "c 3"), api.Ent{Name: "d", Node: 9}, list("a 1", "c 3", "d 9")}, {list("a 1", "c 3"), api.Ent{Name: "B", Node: 9}, list("B 9", "a 1", "c 3")},
		{list("a 1", "c 3"), api.Ent{Name: "a\x00", Node: 3}, list("a 1", "a\x00 3", "c 3")}, {list("a 1", "c 3"), api.Ent{Name: "\xff", Node: 0}, list("a 1", "c 3", "\xff 0")},
		{list("a 1", "b 2", "c 3"), api.Ent{Name: "b", Node: 1}, list("a 1", "b 1", "c 3")},
	} {
		checkList(t, "Put", ents.Put(c.l, c.e), c.want)
	}
}

// P6.1: Cut of names that are there, and of those that aren't.
func TestCut(t *testing.T) {
	abc := list("a 1", "b 2", "c 3")
	for s, want := range map[string][]api.Ent{
		"a": list("b 2", "c 3"), "b": list("a 1", "c 3"), "c": list("a 1", "b 2"),
		"": abc, "A": abc, "a\x00": abc, "aa": abc, "bb": abc, "d": abc, "\xff": abc, "abc": abc, long: abc,
	} {
		checkList(t, "Cut of "+s, ents.Cut(abc, s), want)
	}
	for _, s := range []string{"", "a", "b", "\xff"} {
		checkList(t, "Cut of "+s, ents.Cut(nil, s), nil)
		checkList(t, "Cut of "+s, ents.Cut([]api.Ent{}, s), nil)
	}
	checkList(t, "Cut of the only one", ents.Cut(list("a 1"), "a"), nil)
	checkList(t, "Cut of the only one", ents.Cut(list(" 1"), ""), nil)
	checkList(t, "Cut of none", ents.Cut(list("a 1"), ""), list("a 1"))
	checkList(t, "Cut of none", ents.Cut(list("a 1"), "b"), list("a 1"))
}

// P6.1: of each place in a long list Cut takes that one away, and Put takes its place, or puts it back.
func TestPutCutEachPlace(t *testing.T) {
	l := numbered(names, 1)
	for i, e := range l {
		without := slices.Delete(slices.Clone(l), i, i+1)
		other := slices.Clone(l)
		other[i].Node = -7
		checkList(t, "Cut", ents.Cut(l, e.Name), without)
		checkList(t, "Cut of none", ents.Cut(without, e.Name), without)
		checkList(t, "Put back", ents.Put(without, e), l)
		checkList(t, "Put of the same", ents.Put(l, e), l)
		checkList(t, "Put in its place", ents.Put(l, api.Ent{Name: e.Name, Node: -7}), other)
	}
}

// P6.1: Names, in order.
func TestNames(t *testing.T) {
	for _, want := range [][]string{nil, {""}, {"a"}, {"a", "b"}, {"B", "a"}, {"a", "a\x00", "aa"}, names} {
		if got := ents.Names(numbered(want, -2)); !slices.Equal(got, want) {
			t.Errorf("Names = %.80q, not %.80q", got, want)
		}
	}
	if got := ents.Names([]api.Ent{}); len(got) != 0 {
		t.Errorf("Names of none = %q", got)
	}
}

// P6.2: Merge: the entries of both, those of a ahead.
func TestMerge(t *testing.T) {
	for _, c := range []struct{ a, b, want []api.Ent }{
		{nil, nil, nil}, {[]api.Ent{}, nil, nil}, {nil, list("a 1"), list("a 1")}, {list("a 1"), nil, list("a 1")}, {list("a 1", "c 3"), []api.Ent{}, list("a 1", "c 3")}, {[]api.Ent{}, list("a 1", "c 3"), list("a 1", "c 3")},
		// Of a name that both have, that of a.
		{list("a 1"), list("a 2"), list("a 1")}, {list("a 2"), list("a 1"), list("a 2")}, {list("a 0"), list("a 1"), list("a 0")}, {list(" 1"), list(" 2", "a 3"), list(" 1", "a 3")},
		{list("a 1", "b 2", "c 3"), list("a 4", "b 5", "c 6"), list("a 1", "b 2", "c 3")}, {list("b 2"), list("a 4", "b 5", "c 6"), list("a 4", "b 2", "c 6")}, {list("a 4", "b 5", "c 6"), list("b 2"), list("a 4", "b 5", "c 6")},
		{list("a 1", "c 3"), list("a 4", "b 5"), list("a 1", "b 5", "c 3")}, {list("a 4", "b 5"), list("a 1", "c 3"), list("a 4", "b 5", "c 3")},
		// One behind the other, by turns, and one within the other.
		{list("a 1", "b 2"), list("c 3", "d 4"), list("a 1", "b 2", "c 3", "d 4")}, {list("c 3", "d 4"), list("a 1", "b 2"), list("a 1", "b 2", "c 3", "d 4")},
		{list("a 1", "c 3"), list("b 2", "d 4"), list("a 1", "b 2", "c 3", "d 4")}, {list("b 2", "d 4"), list("a 1", "c 3"), list("a 1", "b 2", "c 3", "d 4")},
		{list("a 1", "d 4"), list("b 2", "c 3"), list("a 1", "b 2", "c 3", "d 4")}, {list("b 2", "c 3"), list("a 1", "d 4"), list("a 1", "b 2", "c 3", "d 4")},
		// One node has no one name here: entries of one node stay.
		{list("a 1"), list("b 1"), list("a 1", "b 1")}, {list("B 1"), list("a 2"), list("B 1", "a 2")}, {list("a 1"), list("B 2"), list("B 2", "a 1")}, {list("gcc-9 1"), list("gcc-12 2"), list("gcc-12 2", "gcc-9 1")},
	} {
		checkList(t, "Merge", ents.Merge(c.a, c.b), c.want)
	}
	l, m := numbered(names, 1), numbered(names, 1001)
	checkList(t, "Merge of all", ents.Merge(l, m), l)
	for i := range l {
		checkList(t, "Merge of one", ents.Merge(l[i:i+1], m), slices.Replace(slices.Clone(m), i, i+1, l[i]))
		checkList(t, "Merge of what is ahead and all", ents.Merge(l[:i], m), slices.Concat(l[:i], m[i:]))
		checkList(t, "Merge of what is behind and all", ents.Merge(l[i:], m), slices.Concat(m[:i], l[i:]))
		checkList(t, "Merge of two halves", ents.Merge(l[i:], m[:i]), slices.Concat(m[:i], l[i:]))
	}
}

// The chapter's word on lists that may not be: every call answers as of an empty one, also of the names that these have.
func TestWrongLists(t *testing.T) {
	some := list("a 8", "b 9")
	for _, l := range wrong {
		for _, s := range []string{"", "A", "B", "a", "aa", "b", "c", "d", "\xff", "gcc-10", l[0].Name, l[len(l)-1].Name} {
			checkNamed(t, l, s, nil, nil)
			checkList(t, "Put to a wrong list", ents.Put(l, api.Ent{Name: s, Node: 7}), []api.Ent{{Name: s, Node: 7}})
			checkList(t, "Cut of a wrong list", ents.Cut(l, s), nil)
		}
		if got := ents.Names(l); len(got) != 0 {
			t.Errorf("Names(%s) = %.80q", tell(l), got)
		}
		checkList(t, "Merge of a wrong list", ents.Merge(l, some), some)
		checkList(t, "Merge with a wrong list", ents.Merge(some, l), some)
		checkList(t, "Merge of a wrong list and none", ents.Merge(l, nil), nil)
		checkList(t, "Merge of none and a wrong list", ents.Merge(nil, l), nil)
		for _, other := range wrong {
			checkList(t, "Merge of two wrong lists", ents.Merge(l, other), nil)
		}
	}
}

// All promises: of all short lists of a few names, rising or not, each call answers what a plain reference does.
func TestLikeReference(t *testing.T) {
	few := []string{"", "B", "a", "aa", "b"}
	probes := slices.Concat(few, []string{"A", "a\x00", "ab", "\xff"})
	lists := listsOf(few, 4)
	for _, l := range lists {
		nodes, right := model(l)
		if ents.Right(l) != right {
			t.Fatalf("Right(%s) isn't %v", tell(l), right)
		}
		if got, want := ents.Names(l), slices.Sorted(maps.Keys(nodes)); !slices.Equal(got, want) {
			t.Fatalf("Names(%s) = %q, not %q", tell(l), got, want)
		}
		for _, s := range probes {
			checkLikeModel(t, l, nodes, s)
		}
	}
	short := listsOf(few, 3)
	for _, a := range short {
		ofA, _ := model(a)
		for _, b := range short {
			both, _ := model(b)
			both = maps.Clone(both)
			for s := range both {
				both[s] += 100
			}
			moved := slices.Clone(b)
			for i := range moved {
				moved[i].Node += 100
			}
			maps.Copy(both, ofA)
			checkList(t, "Merge", ents.Merge(a, moved), entriesOf(both))
		}
	}
}

// checkLikeModel holds what the calls answer of a list and a name against the nodes that its names have.
func checkLikeModel(t *testing.T, l []api.Ent, nodes map[string]int, name string) {
	t.Helper()
	var node *int
	if n, ok := nodes[name]; ok {
		node = &n
	}
	var next *api.Ent
	for _, e := range entriesOf(nodes) {
		if e.Name > name {
			next = &e
			break
		}
	}
	checkNamed(t, l, name, node, next)
	other := maps.Clone(nodes)
	other[name] = 77
	checkList(t, "Put", ents.Put(l, api.Ent{Name: name, Node: 77}), entriesOf(other))
	delete(other, name)
	checkList(t, "Cut", ents.Cut(l, name), entriesOf(other))
}

// model answers which node each name of a list has, if that may be, and whether it may.
func model(l []api.Ent) (map[string]int, bool) {
	nodes := map[string]int{}
	for _, e := range l {
		nodes[e.Name] = e.Node
	}
	if !slices.Equal(entriesOf(nodes), l) {
		return map[string]int{}, false
	}
	return nodes, true
}

// entriesOf answers the entries of a model, rising.
func entriesOf(nodes map[string]int) []api.Ent {
	var l []api.Ent
	for _, s := range slices.Sorted(maps.Keys(nodes)) {
		l = append(l, api.Ent{Name: s, Node: nodes[s]})
	}
	return l
}

// listsOf answers all lists of at most n of the names, in any order, each name any number of times; the nodes count up from 0.
func listsOf(names []string, n int) [][]api.Ent {
	all := [][]api.Ent{nil}
	for begin := 0; n > 0; n-- {
		end := len(all)
		for _, l := range all[begin:end] {
			for _, s := range names {
				all = append(all, append(slices.Clone(l), api.Ent{Name: s, Node: len(l)}))
			}
		}
		begin = end
	}
	return all
}

// P6.3: what comes of Put, Cut and Merge, one behind the other, may be, and what was put is found, till it is cut.
func TestOneBehindTheOther(t *testing.T) {
	var l []api.Ent
	nodes := map[string]int{}
	// Numbers that jump about, the same ones each time.
	turn := 1
	next := func(n int) int {
		turn = turn * 48271 % (1<<31 - 1)
		return turn % n
	}
	for step := range 4000 {
		s := names[next(len(names))]
		switch next(5) {
		case 0, 1:
			l = ents.Put(l, api.Ent{Name: s, Node: step})
			nodes[s] = step
		case 2, 3:
			l = ents.Cut(l, s)
			delete(nodes, s)
		default:
			other := numbered(names[next(len(names)):], -step)[:1]
			if step%2 == 0 {
				l = ents.Merge(l, other)
				if _, ok := nodes[other[0].Name]; !ok {
					nodes[other[0].Name] = -step
				}
			} else {
				l = ents.Merge(other, l)
				nodes[other[0].Name] = -step
			}
		}
		checkList(t, "step "+strconv.Itoa(step), l, entriesOf(nodes))
		for _, s := range names {
			want, in := nodes[s]
			if n, ok := ents.Find(l, s); n != want || ok != in {
				t.Fatalf("step %d: Find(%.80q) = %d, %v, not %d, %v", step, s, n, ok, want, in)
			}
		}
		if t.Failed() {
			return
		}
	}
}

// P6.2: a list is gone through by Next, from the first name on.
func TestNextGoesThrough(t *testing.T) {
	l := numbered(names[1:], 1)
	var got []api.Ent
	for e, ok := ents.Next(l, ""); ok && len(got) <= len(l); e, ok = ents.Next(l, e.Name) {
		got = append(got, e)
	}
	checkList(t, "Next one behind the other", got, l)
}

// R3: what is handed in isn't changed, nor what stands behind it in its memory, and what is answered is new memory.
func TestNewMemory(t *testing.T) {
	for _, l := range slices.Concat(wrong, [][]api.Ent{nil, list("a 1"), list("a 1", "c 3"), list("a 1", "b 2", "c 3", "d 4"), list("b 2", "e 5")}) {
		for _, s := range []string{"", "a", "b", "bb", "c", "e", "\xff"} {
			e := api.Ent{Name: s, Node: 50}
			other := list("a 6", "b 7", "f 8")
			for i, call := range []func(l []api.Ent) []api.Ent{
				func(l []api.Ent) []api.Ent { return ents.Put(l, e) },
				func(l []api.Ent) []api.Ent { return ents.Put(l, api.Ent{Name: "a", Node: 1}) },
				func(l []api.Ent) []api.Ent { return ents.Cut(l, s) },
				func(l []api.Ent) []api.Ent { return ents.Merge(l, other) },
				func(l []api.Ent) []api.Ent { return ents.Merge(other, l) },
				func(l []api.Ent) []api.Ent { return ents.Merge(l, nil) },
				func(l []api.Ent) []api.Ent { return ents.Merge(nil, l) },
				func(l []api.Ent) []api.Ent { return ents.Merge(l, l) },
			} {
				room := append(slices.Clone(l), list("x 90", "y 91", "z 92")...)
				was := slices.Clone(room)
				got := call(room[:len(l)])
				for j := range got {
					got[j] = api.Ent{Name: "changed"}
				}
				for j := range other {
					if other[j].Name == "changed" {
						t.Errorf("call %d of %s and %q shares its memory with the other list", i, tell(l), s)
					}
				}
				if !slices.Equal(room, was) {
					t.Errorf("call %d of %s and %q leaves %s", i, tell(l), s, tell(room))
				}
			}
		}
	}
}

// R3: what is asked of a list leaves it as it is, and Names answers new memory.
func TestAskedKeepsItsList(t *testing.T) {
	for _, l := range slices.Concat(wrong, [][]api.Ent{list("a 1", "b 2", "c 3")}) {
		was := slices.Clone(l)
		for _, s := range []string{"", "a", "b", "c", "d"} {
			ents.Right(l)
			ents.Find(l, s)
			ents.Next(l, s)
			for i, got := 0, ents.Names(l); i < len(got); i++ {
				got[i] = "changed"
			}
			if !slices.Equal(l, was) {
				t.Fatalf("of %s and %q there is left %s", tell(was), s, tell(l))
			}
		}
	}
	l := list("a 1", "b 2")
	one := ents.Names(l)
	one[0] = "changed"
	if two := ents.Names(l); !slices.Equal(two, []string{"a", "b"}) {
		t.Errorf("Names = %q", two)
	}
}

// R1: long lists end soon.
func TestLongLists(t *testing.T) {
	const n = 1 << 18
	var even, odd, all []api.Ent
	for i := range n {
		e := api.Ent{Name: string([]byte{byte(i >> 16), byte(i >> 8), byte(i)}), Node: i}
		all = append(all, e)
		if i%2 == 0 {
			even = append(even, e)
		} else {
			odd = append(odd, e)
		}
	}
	checkList(t, "Merge of even and odd", ents.Merge(even, odd), all)
	checkList(t, "Merge of odd and even", ents.Merge(odd, even), all)
	checkList(t, "Merge of even and all", ents.Merge(even, all), all)
	checkList(t, "Merge of halves", ents.Merge(all[n/2:], all[:n/2]), all)
	checkList(t, "Cut", ents.Cut(all, all[n-1].Name), all[:n-1])
	checkList(t, "Put", ents.Put(all[1:], all[0]), all)
	if l := ents.Names(all); len(l) != n || l[n-1] != all[n-1].Name {
		t.Errorf("%d names", len(l))
	}
	for i := 0; i < n; i += n/16 - 1 {
		next := (*api.Ent)(nil)
		if i+1 < n {
			next = &all[i+1]
		}
		checkNamed(t, all, all[i].Name, &i, next)
	}
	if bad := append(slices.Clone(all), all[n-1]); ents.Right(bad) || len(ents.Names(bad)) != 0 {
		t.Error("a long list with a fault at its end")
	}
}
