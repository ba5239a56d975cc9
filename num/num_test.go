package num_test

import (
	"math"
	"math/big"
	"regexp"
	"strconv"
	"strings"
	"testing"

	"linhay/api"
	"linhay/num"
)

// P1.1: Text.
func TestText(t *testing.T) {
	for n, want := range map[int]string{
		0: "0", 1: "1", -1: "-1", 9: "9", 10: "10", -10: "-10", 100: "100", 1234567890: "1234567890",
		api.MaxPrio:   "1073741824",
		math.MaxInt64: "9223372036854775807",
		math.MinInt64: "-9223372036854775808",
	} {
		if got := num.Text(n); got != want {
			t.Errorf("Text(%d) = %q, not %q", n, got, want)
		}
	}
}

// P1.1: Parse, with both bounds in and out, and the two errors.
func TestParse(t *testing.T) {
	many := strings.Repeat("9", 5000)
	for _, c := range []struct {
		s         string
		low, high int
		n         int
		e         api.Errno
	}{
		{"0", 0, 0, 0, api.OK},
		{"7", 0, 10, 7, api.OK},
		{"-7", -7, 11, -7, api.OK},
		{"11", -7, 11, 11, api.OK},
		{"-8", -7, 11, 0, api.ErrRange},
		{"12", -7, 11, 0, api.ErrRange},
		{"0", 1, 5, 0, api.ErrRange},
		{"0", -5, -1, 0, api.ErrRange},
		{"3", 5, 1, 0, api.ErrRange},
		{"100", 100, 100, 100, api.OK},
		{"9223372036854775807", math.MinInt, math.MaxInt, math.MaxInt, api.OK},
		{"-9223372036854775808", math.MinInt, math.MaxInt, math.MinInt, api.OK},
		{"9223372036854775808", math.MinInt, math.MaxInt, 0, api.ErrRange},
		{"-9223372036854775809", math.MinInt, math.MaxInt, 0, api.ErrRange},
		{"18446744073709551616", math.MinInt, math.MaxInt, 0, api.ErrRange},
		{"18446744073709551617", 0, 10, 0, api.ErrRange},
		{many, math.MinInt, math.MaxInt, 0, api.ErrRange},
		{"-" + many, math.MinInt, math.MaxInt, 0, api.ErrRange},
		{many + "x", math.MinInt, math.MaxInt, 0, api.ErrForm},
		{"0" + many, math.MinInt, math.MaxInt, 0, api.ErrForm},
	} {
		if n, e := num.Parse(c.s, c.low, c.high); n != c.n || e != c.e {
			t.Errorf("Parse(%.30q, %d, %d) = %d, %v, not %d, %v", c.s, c.low, c.high, n, e, c.n, c.e)
		}
	}
}

// P1.1: what is no number's Text is ErrForm, also where no number would be in range.
func TestParseForm(t *testing.T) {
	for _, s := range []string{
		"", "-", "--1", "-0", "00", "-00", "01", "-07", "007", "+1", "+0", " 1", "1 ", "1\n", "1-", "1-2",
		"1_000", "1,0", "1.0", "1e3", "0x10", "0b1", "0o7", "a", "1a", "a1", "-a", "\x00", "1\x00", "/", ":", "1/", "1:",
		"\u0661", "1\u0661", "\xff", "\u22121",
	} {
		for _, b := range [][2]int{{math.MinInt, math.MaxInt}, {5, 4}} {
			if n, e := num.Parse(s, b[0], b[1]); n != 0 || e != api.ErrForm {
				t.Errorf("Parse(%q, %d, %d) = %d, %v, not ErrForm", s, b[0], b[1], n, e)
			}
		}
	}
}

// P1.2: Pad.
func TestPad(t *testing.T) {
	long := strings.Repeat("x", api.MaxWord-1)
	for _, c := range []struct {
		s    string
		n    int
		want string
	}{
		{"", 0, ""}, {"", 1, " "}, {"", 3, "   "},
		{"ab", 4, "ab  "}, {"ab", 3, "ab "}, {"ab", 2, "ab"}, {"ab", 1, "ab"}, {"ab", 0, "ab"},
		{"ab", -1, "ab"}, {"ab", math.MinInt, "ab"}, {"ab", math.MaxInt, "ab"},
		{"a ", 4, "a   "}, {" a", 3, " a "},
		{"\u00e4", 3, "\u00e4 "}, {"\xff\x00", 3, "\xff\x00 "},
		{"a", api.MaxWord, "a" + strings.Repeat(" ", api.MaxWord-1)},
		{"a", api.MaxWord + 1, "a"},
		{"", api.MaxWord, strings.Repeat(" ", api.MaxWord)},
		{"", api.MaxWord + 1, ""},
		{long, api.MaxWord, long + " "},
		{long + "yz", api.MaxWord, long + "yz"},
		{long + "yz", api.MaxWord + 10, long + "yz"},
	} {
		if got := num.Pad(c.s, c.n); got != c.want {
			t.Errorf("Pad(%.20q, %d) = %.20q (%d bytes), not %.20q (%d bytes)", c.s, c.n, got, len(got), c.want, len(c.want))
		}
	}
}

// P1.2: Natural; each pair is asked both ways.
func TestNatural(t *testing.T) {
	noughts := strings.Repeat("0", 300)
	great := "1" + strings.Repeat("0", 300)
	for _, c := range []struct {
		a, b string
		want int
	}{
		{"", "", 0}, {"a", "a", 0}, {"gcc-12", "gcc-12", 0}, {"007", "007", 0}, {great, great, 0},
		{"gcc-9", "gcc-12", -1}, {"9", "12", -1}, {"a2b1", "a10b0", -1}, {"a10a", "a10b", -1},
		{"1.9.9", "1.10.0", -1}, {"x9y", "x10", -1},
		// One is the beginning of the other one.
		{"", "0", -1}, {"", "a", -1}, {"a", "ab", -1}, {"a", "a0", -1}, {"1", "1a", -1}, {"1", "10", -1},
		{"0", "00", -1}, {"a0", "a0\x00", -1}, {"a1b", "a1b2", -1},
		// Digits against another byte, and bytes, go by the bytes.
		{"2", "a", -1}, {"10", "a", -1}, {"/", "0", -1}, {"/", "10", -1}, {"9", ":", -1}, {"99", ":", -1},
		{"A", "a", -1}, {"a", "b", -1}, {"b", "aa", 1}, {"z", "\x80", -1}, {"\x80", "\xff", -1}, {"-1", "0", -1}, {"-1", "-2", -1},
		{"a\u0661", "a\u0662", -1},
		// Noughts ahead: the number first, then the digits; both ahead of what stands behind.
		{"a01", "a1", -1}, {"001", "01", -1}, {"00", "1", -1}, {"0", "1", -1}, {"01", "2", -1}, {"1", "02", -1},
		{"a01z", "a1b", -1}, {"a1", "a01b", 1}, {"a010", "a9", 1}, {"000", "00", 1},
		// Of any size.
		{noughts + "2", "1", 1}, {noughts + "2", "3", -1}, {noughts, "1", -1}, {noughts + "1", "1", -1},
		{"9", great, -1}, {great, great + "0", -1}, {great, strings.Repeat("9", 300), 1},
		{great + "1", great + "2", -1}, {"v" + great + "a", "v" + great + "b", -1},
		{"9223372036854775807", "9223372036854775808", -1}, {"18446744073709551615", "18446744073709551616", -1},
		{"18446744073709551617", "2", 1},
	} {
		if got := num.Natural(c.a, c.b); got != c.want {
			t.Errorf("Natural(%.40q, %.40q) = %d, not %d", c.a, c.b, got, c.want)
		}
		if got := num.Natural(c.b, c.a); got != -c.want {
			t.Errorf("Natural(%.40q, %.40q) = %d, not %d", c.b, c.a, got, -c.want)
		}
	}
}

// P1.3: what Text tells, Parse answers.
func TestToldIsParsed(t *testing.T) {
	numbers := []int{math.MinInt, math.MinInt + 1, math.MaxInt - 1, math.MaxInt}
	for n := -1200; n <= 1200; n++ {
		numbers = append(numbers, n)
	}
	for p := 1; p < math.MaxInt/10; p *= 10 {
		numbers = append(numbers, p-1, p, p+1, 1-p, -p, -1-p)
	}
	for _, n := range numbers {
		for _, b := range [][2]int{{math.MinInt, math.MaxInt}, {n, n}} {
			if m, e := num.Parse(num.Text(n), b[0], b[1]); m != n || e != api.OK {
				t.Errorf("Parse(Text(%d), %d, %d) = %d, %v", n, b[0], b[1], m, e)
			}
		}
	}
}

// P1.1, P1.3: what Parse takes is told by Text just so.
func TestParsedIsTold(t *testing.T) {
	for _, s := range textsOf("-019+", 4) {
		n, e := num.Parse(s, math.MinInt, math.MaxInt)
		if m, err := strconv.Atoi(s); (e == api.OK) != (err == nil && strconv.Itoa(m) == s) {
			t.Errorf("Parse(%q) = %d, %v", s, n, e)
		}
		if e == api.OK && num.Text(n) != s {
			t.Errorf("Parse(%q) = %d, and that is told %q", s, n, num.Text(n))
		}
	}
}

// P1.2, P1.3: of all pairs of short texts Natural is what a slow, plain comparison answers; one text alone is like itself.
func TestNaturalLikeReference(t *testing.T) {
	texts := textsOf("012a/", 4)
	parts := make([][]string, len(texts))
	for i, s := range texts {
		parts[i] = partOf.FindAllString(s, -1)
	}
	for i, a := range texts {
		for j, b := range texts {
			got := num.Natural(a, b)
			if want := compareAll(parts[i], parts[j]); got != want {
				t.Fatalf("Natural(%q, %q) = %d, not %d", a, b, got, want)
			}
			if (got == 0) != (i == j) {
				t.Fatalf("Natural(%q, %q) = %d", a, b, got)
			}
		}
	}
}

// P1.3: Natural is an order: what is ahead of what is ahead is ahead.
func TestNaturalIsTransitive(t *testing.T) {
	texts := textsOf("01a", 4)
	for _, a := range texts {
		for _, b := range texts {
			if num.Natural(a, b) >= 0 {
				continue
			}
			for _, c := range texts {
				if num.Natural(b, c) < 0 && num.Natural(a, c) >= 0 {
					t.Fatalf("%q, %q, %q", a, b, c)
				}
			}
		}
	}
}

// R1: long texts end soon.
func TestNaturalLong(t *testing.T) {
	a := strings.Repeat("7", 1<<20)
	if num.Natural(a+"8", a+"9") != -1 || num.Natural(strings.Repeat("a1", 1<<20), strings.Repeat("a1", 1<<20)) != 0 {
		t.Error("long texts")
	}
}

var partOf = regexp.MustCompile(`(?s)[0-9]+|.`)

// textsOf answers all texts of at most n of the letters.
func textsOf(letters string, n int) []string {
	texts := []string{""}
	for from := 0; n > 0; n-- {
		to := len(texts)
		for ; from < to; from++ {
			for _, c := range letters {
				texts = append(texts, texts[from]+string(c))
			}
		}
	}
	return texts
}

// compareAll orders lists of parts, as the chapter tells it.
func compareAll(x, y []string) int {
	for i := 0; i < len(x) && i < len(y); i++ {
		m, mok := new(big.Int).SetString(x[i], 10)
		n, nok := new(big.Int).SetString(y[i], 10)
		if mok && nok && m.Cmp(n) != 0 {
			return m.Cmp(n)
		}
		if c := strings.Compare(x[i], y[i]); c != 0 {
			return c
		}
	}
	switch {
	case len(x) < len(y):
		return -1
	case len(x) > len(y):
		return 1
	}
	return 0
}
