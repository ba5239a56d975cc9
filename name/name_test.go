package name_test

import (
	"regexp"
	"slices"
	"strings"
	"testing"

	"linhay/api"
	"linhay/name"
)

var (
	full = strings.Repeat("n", api.MaxName)
	over = full + "n"
	// Names that may be, though they aren't plain.
	odd = []string{
		" ", "  ", "\t", "\n", "\r\n", "a b", "a\nb", "\x01", "\x7f", "\\", "'", "\"", "*", "?", ":", "~", "#", "@", ",", "=", "%", "!", ". ", " .", ".\n",
		"-", "--", "-a", "-.", "-1", "--x=1", "-" + full[1:],
		// Bytes of 128 and above, alone, and parts of letters without the others.
		"\x80", "\xff", "\xe9", "a\xe9", "\xe9a", "a\xffb", "\xc3", "\xa4", "\xe2\x82", "\xf0\x9f\x98", "\xc1\xa1", "\xed\xa0\x80",
		// Letters of two, three and four bytes, among them some that are letters, digits and points elsewhere.
		"\u00e9", "\u00e4b", "a\u00df", "\u0391", "\u0410", "\u0661", "\uff41", "\uff11", "\uff0e", "\uff0f", "\u2215", "\u2026", "\u2024", "\u212a", "\u017f", "\u00a0", "\ufeff", "\ufffd", "\U0001f600", "\U0001d41a",
		// Low bytes of these runes' numbers are those of / and a, and 0.
		"\u012f", "\u0161", "\u0100", "\u4e2f", "\U0001002f",
	}
	plain = []string{
		"a", "z", "A", "Z", "0", "9", "_", "+", "vi", "g++", "gcc-12", "x86_64", "lib.so.1", ".bashrc", "_x", "+x", "0day", "a-", "a--b", "a.", "a..", ".a", "..a", "...", "....", ".-", "..-", "._", "_-", "+-", "a-.b_c+D9", "dot-bashrc",
		full, strings.Repeat(".", api.MaxName), "a" + strings.Repeat("-", api.MaxName-1),
	}
)

// checkName holds what Check and Right answer against the error that is asked for.
func checkName(t *testing.T, s string, want api.Errno) {
	t.Helper()
	if e := name.Check(s); e != want {
		t.Errorf("Check(%.80q) = %v, not %v", s, e, want)
	}
	if got := name.Right(s); got != (want == api.OK) {
		t.Errorf("Right(%.80q) = %v", s, got)
	}
}

// P3.1: names that may be.
func TestCheck(t *testing.T) {
	for _, s := range slices.Concat(plain, odd) {
		checkName(t, s, api.OK)
	}
}

// P3.1: the empty name, and one, two and three points.
func TestCheckPoints(t *testing.T) {
	for s, want := range map[string]api.Errno{
		"":  api.ErrNone,
		".": api.ErrExist, "..": api.ErrExist,
		"...": api.OK, "....": api.OK, ".a": api.OK, "..a": api.OK, "a.": api.OK, "a..": api.OK, ". ": api.OK, " ..": api.OK, ".-": api.OK, ".\x80": api.OK,
	} {
		checkName(t, s, want)
	}
}

// P3.1: MaxName bytes, and one more; bytes are counted, not letters.
func TestCheckLong(t *testing.T) {
	for s, want := range map[string]api.Errno{
		full[1:]: api.OK, full: api.OK, over: api.ErrName,
		strings.Repeat("n", 2*api.MaxName): api.ErrName, strings.Repeat("n", 1<<20): api.ErrName,
		strings.Repeat(".", api.MaxName): api.OK, strings.Repeat(".", api.MaxName+1): api.ErrName,
		strings.Repeat(" ", api.MaxName): api.OK, strings.Repeat(" ", api.MaxName+1): api.ErrName,
		strings.Repeat("\xff", api.MaxName): api.OK, strings.Repeat("\xff", api.MaxName+1): api.ErrName,
		strings.Repeat("\u00e4", api.MaxName/2): api.OK, strings.Repeat("\u00e4", api.MaxName/2) + "n": api.ErrName,
		strings.Repeat("\U0001f600", api.MaxName/4): api.OK, strings.Repeat("\U0001f600", api.MaxName/4+1): api.ErrName,
		full[2:] + "\u00e4": api.OK, full[1:] + "\u00e4": api.ErrName,
	} {
		checkName(t, s, want)
	}
}

// P3.1: bytes 0 and / wherever they stand, also within letters that are broken off by them.
func TestCheckBytes(t *testing.T) {
	for _, bad := range []string{"\x00", "/"} {
		for _, s := range []string{"n", "ab", "...", "\u00e4", "\xe2\x82\xac", "\xf0\x9f\x98\x80", "\xff\xfe", full[1:]} {
			for i := range len(s) + 1 {
				checkName(t, s[:i]+bad+s[i:], api.ErrName)
			}
		}
		for _, s := range []string{bad, bad + bad, "a" + bad + "/\x00", " " + bad, "-" + bad} {
			checkName(t, s, api.ErrName)
		}
	}
}

// P3.1: of each byte, at each place in a name, just 0 and / may not be.
func TestCheckEachByte(t *testing.T) {
	for c := range 256 {
		want := api.OK
		if c == 0 || c == '/' {
			want = api.ErrName
		}
		b := string([]byte{byte(c)})
		for _, s := range []string{b + "x", "x" + b, "x" + b + "y", full[1:] + b, b + full[1:], "\xc3" + b, ".." + b + ".."} {
			checkName(t, s, want)
		}
		checkName(t, full+b, api.ErrName)
	}
}

// P3.1: of several faults it is the one that is named first: what has points is refused for its bytes, and its length.
func TestCheckFirst(t *testing.T) {
	for _, s := range []string{
		"./", "../", "/.", "/..", "./.", "../..", ".\x00", "\x00.", "..\x00", ".\x00.", "/", "\x00",
		over + "/", "/" + over, over + "\x00", strings.Repeat("/", api.MaxName), strings.Repeat("/", api.MaxName+1), strings.Repeat("\x00", api.MaxName+1), strings.Repeat("../", api.MaxName),
	} {
		checkName(t, s, api.ErrName)
	}
}

// P3.2: Sort.
func TestSort(t *testing.T) {
	for _, c := range []struct{ l, want []string }{
		{nil, nil}, {[]string{}, nil},
		{[]string{"a"}, []string{"a"}}, {[]string{""}, []string{""}},
		{[]string{"a", "b"}, []string{"a", "b"}}, {[]string{"b", "a"}, []string{"a", "b"}},
		{[]string{"c", "a", "b"}, []string{"a", "b", "c"}},
		// Equal names, beside one another and not.
		{[]string{"a", "a"}, []string{"a"}}, {[]string{"a", "a", "a", "a"}, []string{"a"}},
		{[]string{"b", "a", "b", "B"}, []string{"B", "a", "b"}},
		{[]string{"b", "a", "b", "a", "b"}, []string{"a", "b"}},
		{[]string{"a", "b", "b", "c", "c", "c"}, []string{"a", "b", "c"}},
		{[]string{"", "a", ""}, []string{"", "a"}},
		// Byte by byte: neither by numbers, nor by letters great and small, nor by lengths.
		{[]string{"gcc-9", "gcc-12"}, []string{"gcc-12", "gcc-9"}},
		{[]string{"a10", "a2", "a1"}, []string{"a1", "a10", "a2"}},
		{[]string{"b", "A", "a", "B"}, []string{"A", "B", "a", "b"}},
		{[]string{"ab", "b", "a", "aa", "a a", "a-b", "a.b", "a/b"}, []string{"a", "a a", "a-b", "a.b", "a/b", "aa", "ab", "b"}},
		{[]string{"a", "A"}, []string{"A", "a"}},
		{[]string{"z", "\u00e4", "a"}, []string{"a", "z", "\u00e4"}},
		{[]string{"\xff", "\u00e4", "\x80", "\U0001f600", "\uff41", "\x7f", "\x00"}, []string{"\x00", "\x7f", "\x80", "\u00e4", "\uff41", "\U0001f600", "\xff"}},
		{[]string{"a\x00", "a", "a\x01"}, []string{"a", "a\x00", "a\x01"}},
		// What may be no name is sorted likewise.
		{[]string{"..", "", ".", "/", over}, []string{"", ".", "..", "/", over}},
	} {
		if got := name.Sort(c.l); !slices.Equal(got, c.want) {
			t.Errorf("Sort(%.60q) = %.60q, not %.60q", c.l, got, c.want)
		}
	}
}

// R3: what is handed in isn't changed, and what is answered is no part of it.
func TestSortKeepsItsList(t *testing.T) {
	for _, l := range [][]string{{"b", "a", "b", "a"}, {"a", "b"}, {"a"}, {"a", "a"}} {
		was := slices.Clone(l)
		got := name.Sort(l[:len(l):len(l)])
		if !slices.Equal(l, was) {
			t.Errorf("Sort made its list %q, of %q", l, was)
		}
		for i := range got {
			got[i] = "x"
		}
		if !slices.Equal(l, was) {
			t.Errorf("what Sort answers shares memory with %q", was)
		}
	}
	l := []string{"b", "c", "a", "z"}
	if got := append(name.Sort(l[:2]), "y"); l[2] != "a" || !slices.Equal(got, []string{"b", "c", "y"}) {
		t.Errorf("%q, of %q", got, l)
	}
}

// checkFind holds what Find answers against the place and the answer that are asked for.
func checkFind(t *testing.T, l []string, s string, want int, wantIn bool) {
	t.Helper()
	if i, in := name.Find(l, s); i != want || in != wantIn {
		t.Errorf("Find(%.60q, %.60q) = %d, %v, not %d, %v", l, s, i, in, want, wantIn)
	}
}

// P3.2: Find, of a name below the first one, between two, equal to one, and above the last one.
func TestFind(t *testing.T) {
	l := []string{"B", "a", "ab", "b", "g++", "\u00e4", "\xff"}
	for i, s := range l {
		checkFind(t, l, s, i, true)
		checkFind(t, l, s+"\x00", i+1, false)
	}
	for s, want := range map[string]int{
		"": 0, "A": 0, "-": 0, "\x00": 0,
		"Ba": 1, "C": 1, "Z": 1, "_": 1,
		"a ": 2, "aa": 2, "aaz": 2,
		"abc": 3, "ac": 3, "a\xff": 3,
		"ba": 4, "c": 4, "g": 4, "g+": 4,
		"g+++": 5, "h": 5, "z": 5, "\x80": 5, "\xc3": 5,
		"\u00e5": 6, "\U0001f600": 6, "\xfe": 6,
		"\xffa": 7, "\xff\xff": 7, strings.Repeat("\xff", 100): 7,
	} {
		checkFind(t, l, s, want, false)
	}
}

// P3.2: lists without a name, and with one; of equal names the first one is told.
func TestFindEdges(t *testing.T) {
	for _, s := range []string{"", "a", "\xff"} {
		checkFind(t, nil, s, 0, false)
		checkFind(t, []string{}, s, 0, false)
	}
	checkFind(t, []string{"b"}, "a", 0, false)
	checkFind(t, []string{"b"}, "b", 0, true)
	checkFind(t, []string{"b"}, "c", 1, false)
	checkFind(t, []string{"b"}, "", 0, false)
	checkFind(t, []string{""}, "", 0, true)
	checkFind(t, []string{""}, "a", 1, false)
	for n := 1; n <= 9; n++ {
		same := slices.Repeat([]string{"b"}, n)
		checkFind(t, same, "a", 0, false)
		checkFind(t, same, "b", 0, true)
		checkFind(t, same, "c", n, false)
		mixed := slices.Concat([]string{"a", "a"}, same, []string{"c", "c"})
		checkFind(t, mixed, "a", 0, true)
		checkFind(t, mixed, "aa", 2, false)
		checkFind(t, mixed, "b", 2, true)
		checkFind(t, mixed, "bb", 2+n, false)
		checkFind(t, mixed, "c", 2+n, true)
		checkFind(t, mixed, "d", 4+n, false)
	}
}

// P3.2: of lists of all short texts Find answers what is found one by one.
func TestFindLikeReference(t *testing.T) {
	all := textsOf("Aa.\xff", 3)
	for step := 1; step <= 7; step++ {
		some := []string{}
		for i := 0; i < len(all); i += step {
			some = append(some, all[i])
		}
		l := name.Sort(some)
		if len(l) != len(some) {
			t.Fatalf("Sort(%q) = %q", some, l)
		}
		for i := 1; i < len(l); i++ {
			if l[i-1] >= l[i] {
				t.Fatalf("Sort(%q) has %q ahead of %q", some, l[i-1], l[i])
			}
		}
		for _, s := range all {
			want := slices.IndexFunc(l, func(n string) bool { return n >= s })
			if want < 0 {
				want = len(l)
			}
			checkFind(t, l, s, want, slices.Contains(some, s))
		}
	}
}

// R1, R3: Find ends, and keeps a list that doesn't rise, too.
func TestFindKeepsItsList(t *testing.T) {
	for _, l := range [][]string{{"a", "b", "c"}, {"c", "b", "a"}, {"b", "a", "c", "a"}, {"", "", ""}} {
		was := slices.Clone(l)
		for _, s := range []string{"", "a", "b", "c", "d"} {
			if i, _ := name.Find(l, s); i < 0 || i > len(l) || !slices.Equal(l, was) {
				t.Errorf("Find(%q, %q) = %d, and the list is %q", was, s, i, l)
			}
		}
	}
}

// P3.3: Plain.
func TestPlain(t *testing.T) {
	for _, s := range plain {
		if !name.Plain(s) {
			t.Errorf("Plain(%.80q) is false", s)
		}
	}
	wrong := []string{
		"", ".", "..", over, strings.Repeat(".", api.MaxName+1), strings.Repeat("n", 1<<20),
		"a/b", "/", "/a", "a/", "./", "../a", "\x00", "a\x00", "\x00a", "-\x00", "a/" + over,
		full[1:] + " ", " " + full[1:], full[1:] + "\xff", full[2:] + "\u00e4",
	}
	for _, s := range slices.Concat(wrong, odd) {
		if name.Plain(s) {
			t.Errorf("Plain(%.80q) is true", s)
		}
	}
}

// P3.3: of each byte, alone and within a name, what is asked for; - may not be the first one.
func TestPlainEachByte(t *testing.T) {
	const others = "abcdefghijklmnopqrstuvwxyzABCDEFGHIJKLMNOPQRSTUVWXYZ0123456789._+"
	for c := range 256 {
		b := string([]byte{byte(c)})
		first := strings.Contains(others, b)
		for s, want := range map[string]bool{
			b: first && c != '.', b + "x": first, b + full[1:]: first,
			"x" + b: first || c == '-', "x" + b + "y": first || c == '-', full[1:] + b: first || c == '-', "." + b: (first && c != '.') || c == '-',
			full + b: false, "x " + b: false, "-" + b: false, "\xc3" + b: false,
		} {
			if got := name.Plain(s); got != want {
				t.Errorf("Plain(%.80q) = %v", s, got)
			}
		}
	}
}

// P3.3: no rune of 128 and above is plain, whatever its number.
func TestPlainEachRune(t *testing.T) {
	for r := rune(128); r <= 0x10ffff; r++ {
		if s := "x" + string(r); name.Plain(s) || name.Check(s) != api.OK {
			t.Fatalf("Plain(%q) = %v, Check: %v", s, name.Plain(s), name.Check(s))
		}
	}
}

// P3.1, P3.3: of all short texts Plain and Check are what their patterns say.
func TestLikeReference(t *testing.T) {
	plainOf := regexp.MustCompile(`^[A-Za-z0-9._+][A-Za-z0-9._+-]*$`)
	for _, s := range textsOf(".-a/\x00 _\xc3\xa4", 5) {
		want := api.OK
		switch {
		case s == "":
			want = api.ErrNone
		case strings.ContainsAny(s, "/\x00"):
			want = api.ErrName
		case s == "." || s == "..":
			want = api.ErrExist
		}
		checkName(t, s, want)
		if got := name.Plain(s); got != (want == api.OK && plainOf.MatchString(s)) {
			t.Errorf("Plain(%q) = %v", s, got)
		}
	}
}

// P3.4: a plain name is a right one.
func TestPlainIsRight(t *testing.T) {
	texts := slices.Concat(plain, odd, textsOf("a.-+/\x00\xff", 5))
	for n := range api.MaxName + 3 {
		for _, b := range []string{"a", ".", "-", "+", "/"} {
			texts = append(texts, strings.Repeat(b, n), "a"+strings.Repeat(b, n))
		}
	}
	for _, s := range texts {
		if name.Plain(s) && (!name.Right(s) || name.Check(s) != api.OK) {
			t.Errorf("%q is plain, but not right: %v", s, name.Check(s))
		}
	}
}

// R1: long lists end soon.
func TestLongLists(t *testing.T) {
	const n = 1 << 18
	l := make([]string, n)
	for i := range l {
		l[i] = strings.Repeat("x", i%7) + string([]byte{byte(i >> 16), byte(i >> 8), byte(i)})
	}
	sorted := name.Sort(append(l, l...))
	if len(sorted) != n {
		t.Fatalf("%d names", len(sorted))
	}
	for _, s := range l {
		if i, in := name.Find(sorted, s); !in || sorted[i] != s {
			t.Fatalf("Find(%q) = %d, %v", s, i, in)
		}
	}
}

// textsOf answers all texts of at most n of the letters, bytes.
func textsOf(letters string, n int) []string {
	all := []string{""}
	for begin := 0; n > 0; n-- {
		end := len(all)
		for _, s := range all[begin:end] {
			for i := range len(letters) {
				all = append(all, s+letters[i:i+1])
			}
		}
		begin = end
	}
	return all
}
