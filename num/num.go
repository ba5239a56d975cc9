// Package num is layer 1: whole numbers as texts, and an order by the numbers in texts.
package num

import (
	"cmp"
	"strconv"
	"strings"

	"linhay/api"
)

// Text answers a number's digits.
func Text(n int) string { return strconv.Itoa(n) }

// Parse answers the number from low to high whose Text s is.
func Parse(s string, low, high int) (int, api.Errno) {
	if !isText(s) {
		return 0, api.ErrForm
	}
	// Of a number's text Atoi refuses nothing but what an int can't hold.
	n, err := strconv.Atoi(s)
	if err != nil || n < low || n > high {
		return 0, api.ErrRange
	}
	return n, api.OK
}

// isText tells whether s is the Text of a number, of any size.
func isText(s string) bool {
	if s == "0" {
		return true
	}
	digits := strings.TrimPrefix(s, "-")
	return digits != "" && digits[0] != '0' && digitsAhead(digits) == len(digits)
}

// Pad answers s with as many blanks behind it as make it n bytes.
func Pad(s string, n int) string {
	if n > api.MaxWord || n <= len(s) {
		return s
	}
	return s + strings.Repeat(" ", n-len(s))
}

// Natural orders texts part by part, digits that stand together by their number.
func Natural(a, b string) int {
	for a != "" && b != "" {
		x, y := firstPart(a), firstPart(b)
		if c := compareParts(x, y); c != 0 {
			return c
		}
		// Parts that are one have the same bytes.
		a, b = a[len(x):], b[len(y):]
	}
	return cmp.Compare(len(a), len(b))
}

// firstPart answers the part that s, which isn't empty, begins with.
func firstPart(s string) string { return s[:max(1, digitsAhead(s))] }

// compareParts orders two parts.
func compareParts(x, y string) int {
	if isDigit(x[0]) && isDigit(y[0]) {
		if c := compareNumbers(x, y); c != 0 {
			return c
		}
	}
	return strings.Compare(x, y)
}

// compareNumbers orders digits by their numbers. They may be of any size, so they stay texts.
func compareNumbers(x, y string) int {
	x, y = strings.TrimLeft(x, "0"), strings.TrimLeft(y, "0")
	if len(x) != len(y) {
		return cmp.Compare(len(x), len(y))
	}
	return strings.Compare(x, y)
}

// digitsAhead answers how many digits s begins with.
func digitsAhead(s string) int {
	n := 0
	for n < len(s) && isDigit(s[n]) {
		n++
	}
	return n
}

// isDigit tells whether c is a decimal digit.
func isDigit(c byte) bool { return '0' <= c && c <= '9' }
