package num_test

import (
	"math"
	"math/big"
	"strconv"
	"strings"
	"testing"

	"treillage/api"
	"treillage/num"
)

// edges are the numbers at which something changes: small ones, roots of the bound, the bound, and what is beyond it up to the ends of int.
func edges() []int {
	var l []int
	for _, n := range []int{0, 1, 2, 3, 7, 9, 10, 11, 99, 100, 101, 1000, 94906265, 94906266, 94906267, 1 << 26, 1<<26 + 1, 1 << 27, 1<<27 + 1, 1 << 31, 1 << 32, 1 << 52, 1<<52 + 1, 1<<53 - 1, 1 << 53, 1<<53 + 1, 1<<53 + 2, 1 << 54, 1 << 62, math.MaxInt} {
		l = append(l, n, -n)
	}
	return append(l, math.MinInt, math.MinInt+1, math.MinInt+2)
}

// asked is what promise 1.1 asks of a, b and what really comes of them.
func asked(a, b int, exact *big.Int) (int, api.Errno) {
	bound := big.NewInt(1 << 53)
	if big.NewInt(int64(a)).CmpAbs(bound) > 0 || big.NewInt(int64(b)).CmpAbs(bound) > 0 {
		return 0, api.ErrRange
	}
	if exact.CmpAbs(bound) > 0 {
		return 0, api.ErrOver
	}
	return int(exact.Int64()), api.OK
}

// 1.1: the bound belongs to the language, on both sides; what is beyond it does not.
func TestIn(t *testing.T) {
	for n, want := range map[int]bool{0: true, 1: true, -1: true, 1<<53 - 1: true, 1 << 53: true, 1<<53 + 1: false, -1<<53 + 1: true, -1 << 53: true, -1<<53 - 1: false, math.MaxInt: false, math.MinInt: false} {
		if num.In(n) != want {
			t.Errorf("In(%d) is %v", n, !want)
		}
	}
}

// 1.1: what Add, Sub and Mul tell, against numbers without a bound.
func TestReckoning(t *testing.T) {
	for _, c := range []struct {
		name  string
		does  func(a, b int) (int, api.Errno)
		exact func(z, a, b *big.Int) *big.Int
	}{{"Add", num.Add, (*big.Int).Add}, {"Sub", num.Sub, (*big.Int).Sub}, {"Mul", num.Mul, (*big.Int).Mul}} {
		for _, a := range edges() {
			for _, b := range edges() {
				n, e := c.does(a, b)
				want, f := asked(a, b, c.exact(new(big.Int), big.NewInt(int64(a)), big.NewInt(int64(b))))
				if n != want || e != f {
					t.Errorf("%s(%d, %d): %d %d, not %d %d", c.name, a, b, n, e, want, f)
				}
			}
		}
	}
}

// 1.1: some of the answers written out, so that they do not hang on what the test reckons with.
func TestReckoningByHand(t *testing.T) {
	const top = 1 << 53
	for _, c := range []struct {
		name string
		does func(a, b int) (int, api.Errno)
		a, b int
		n    int
		e    api.Errno
	}{
		{"Add", num.Add, 2, 3, 5, api.OK},
		{"Add", num.Add, top, 1, 0, api.ErrOver},
		{"Add", num.Add, top, -top, 0, api.OK},
		{"Add", num.Add, top, 0, top, api.OK},
		{"Add", num.Add, -top, -1, 0, api.ErrOver},
		{"Add", num.Add, top + 1, -1, 0, api.ErrRange},
		{"Add", num.Add, -1, top + 1, 0, api.ErrRange},
		{"Add", num.Add, math.MaxInt, math.MaxInt, 0, api.ErrRange},
		{"Sub", num.Sub, 2, 3, -1, api.OK},
		{"Sub", num.Sub, -top, 1, 0, api.ErrOver},
		{"Sub", num.Sub, top, top, 0, api.OK},
		{"Sub", num.Sub, 0, -top, top, api.OK},
		{"Sub", num.Sub, 0, -top - 1, 0, api.ErrRange},
		{"Sub", num.Sub, math.MinInt, math.MinInt, 0, api.ErrRange},
		{"Mul", num.Mul, -4, 3, -12, api.OK},
		{"Mul", num.Mul, 0, top, 0, api.OK},
		{"Mul", num.Mul, top, 0, 0, api.OK},
		{"Mul", num.Mul, -top, 1, -top, api.OK},
		{"Mul", num.Mul, top, -1, -top, api.OK},
		{"Mul", num.Mul, top, 2, 0, api.ErrOver},
		{"Mul", num.Mul, 1 << 27, 1 << 26, top, api.OK},
		{"Mul", num.Mul, 1 << 32, 1 << 32, 0, api.ErrOver}, // goes round to 0 in an int
		{"Mul", num.Mul, top, top, 0, api.ErrOver},
		{"Mul", num.Mul, 0, top + 1, 0, api.ErrRange},
		{"Mul", num.Mul, top + 1, top, 0, api.ErrRange}, // both errors apply: the first one is told
	} {
		if n, e := c.does(c.a, c.b); n != c.n || e != c.e {
			t.Errorf("%s(%d, %d): %d %d, not %d %d", c.name, c.a, c.b, n, e, c.n, c.e)
		}
	}
}

// 1.1: sums go from the left, and the first refusal is told, even where the whole sum would be one of the language's.
func TestSum(t *testing.T) {
	const top = 1 << 53
	for _, c := range []struct {
		l []int
		n int
		e api.Errno
	}{
		{nil, 0, api.OK},
		{[]int{}, 0, api.OK},
		{[]int{7}, 7, api.OK},
		{[]int{1, 2, -5}, -2, api.OK},
		{[]int{top}, top, api.OK},
		{[]int{-top}, -top, api.OK},
		{[]int{top + 1}, 0, api.ErrRange},
		{[]int{-top - 1}, 0, api.ErrRange},
		{[]int{top, 1, -1}, 0, api.ErrOver},
		{[]int{-1, top, 1}, top, api.OK},
		{[]int{1, -1, top}, top, api.OK},
		{[]int{-top, -1, 1}, 0, api.ErrOver},
		{[]int{top, -top, -top}, -top, api.OK},
		{[]int{top, 1, top + 1}, 0, api.ErrOver},
		{[]int{top, top + 1, 1}, 0, api.ErrRange},
		{[]int{1, math.MaxInt, math.MinInt}, 0, api.ErrRange},
	} {
		if n, e := num.Sum(c.l...); n != c.n || e != c.e {
			t.Errorf("Sum(%v): %d %d, not %d %d", c.l, n, e, c.n, c.e)
		}
	}
	if n, e := num.Sum(); n != 0 || e != api.OK {
		t.Errorf("Sum(): %d %d", n, e)
	}
}

// R5: what is handed in is not changed, nor is what lies behind its length.
func TestSumKeepsItsNumbers(t *testing.T) {
	l := []int{1, 2, 3, 1<<53 + 1}
	if n, e := num.Sum(l[:3]...); n != 6 || e != api.OK {
		t.Errorf("Sum of a part: %d %d", n, e)
	}
	if l[0] != 1 || l[1] != 2 || l[2] != 3 || l[3] != 1<<53+1 {
		t.Errorf("changed: %v", l)
	}
}

// 1.2: the text of any int, also beyond the language's numbers.
func TestText(t *testing.T) {
	for n, want := range map[int]string{0: "0", 1: "1", -1: "-1", 10: "10", -10: "-10", 907: "907", 1 << 53: "9007199254740992", -1<<53 - 1: "-9007199254740993", math.MaxInt: "9223372036854775807", math.MinInt: "-9223372036854775808"} {
		if s := num.Text(n); s != want {
			t.Errorf("Text(%d): %q", n, s)
		}
	}
	for _, n := range edges() {
		if s := num.Text(n); s != strconv.Itoa(n) {
			t.Errorf("Text(%d): %q", n, s)
		}
	}
	for n := -1100; n <= 1100; n++ {
		if s := num.Text(n); s != strconv.Itoa(n) {
			t.Errorf("Text(%d): %q", n, s)
		}
	}
}

// 1.2: texts of the language's numbers are read, at its bounds too.
func TestRead(t *testing.T) {
	for s, want := range map[string]int{"0": 0, "7": 7, "-7": -7, "10": 10, "-100": -100, "1234567890123456": 1234567890123456, "9007199254740992": 1 << 53, "-9007199254740992": -1 << 53, "9007199254740991": 1<<53 - 1} {
		if n, e := num.Read(s); n != want || e != api.OK {
			t.Errorf("Read(%q): %d %d", s, n, e)
		}
	}
}

// 1.2: what is no whole number's text is refused, however many digits it has.
func TestReadForm(t *testing.T) {
	long := strings.Repeat("9", 40)
	for _, s := range []string{
		"", "-", "+", "--", "+1", "+0", "-+1", "+-1", "--1", "1-", "-0", "-00", "-01", "00", "007", "01", "1a", "a1", "0x1", "1e3", "1.0", "1_0",
		" 1", "1 ", "1\n", "\t1", "- 1", "/", ":", "1/", "1:", "-/", "\x00", "1\x00", "\xff", "\u0661", "\uff11", "1\u0661",
		"0" + long, "-0" + long, long + "x", "+" + long, "9007199254740993 ", "09007199254740992", strings.Repeat("0", 40),
	} {
		if n, e := num.Read(s); n != 0 || e != api.ErrForm {
			t.Errorf("Read(%q): %d %d, not ErrForm", s, n, e)
		}
	}
}

// 1.2: texts of numbers beyond the bound are known for such, also beyond any int.
func TestReadOver(t *testing.T) {
	for _, s := range []string{
		"9007199254740993", "-9007199254740993", "9999999999999999", "10000000000000000", "-10000000000000000", "9223372036854775807", "-9223372036854775808", "9223372036854775808",
		"18446744073709551616", "18446744073709551617", "-18446744073709551617", "1" + strings.Repeat("0", 64), "-" + strings.Repeat("9", 100000),
	} {
		if n, e := num.Read(s); n != 0 || e != api.ErrOver {
			t.Errorf("Read of %d bytes, %.30q: %d %d, not ErrOver", len(s), s, n, e)
		}
	}
}

// 1.3: what is written is read again; of the others' texts it is told that they are too great.
func TestReadAgain(t *testing.T) {
	for _, n := range edges() {
		got, e := num.Read(num.Text(n))
		if num.In(n) && (got != n || e != api.OK) || !num.In(n) && (got != 0 || e != api.ErrOver) {
			t.Errorf("%d is read again as %d %d", n, got, e)
		}
	}
	for n := -2000; n <= 2000; n++ {
		if got, e := num.Read(num.Text(n)); got != n || e != api.OK {
			t.Errorf("%d is read again as %d %d", n, got, e)
		}
	}
}

// 1.3: and what is read is written again: no other text has the same number.
func TestWrittenAgain(t *testing.T) {
	signs := []string{"", "-", "+", "0", "1", "9", "a"}
	for _, a := range signs {
		for _, b := range signs {
			for _, c := range signs {
				s := a + b + c
				if n, e := num.Read(s); e == api.OK && num.Text(n) != s {
					t.Errorf("%q is read as %d", s, n)
				}
			}
		}
	}
}

// 1.3: a sum, less one of its parts, is the other one.
func TestSumLessPart(t *testing.T) {
	for _, a := range edges() {
		for _, b := range edges() {
			sum, e := num.Add(a, b)
			if e != api.OK {
				continue
			}
			if n, e := num.Sub(sum, a); n != b || e != api.OK {
				t.Errorf("%d + %d, less the first: %d %d", a, b, n, e)
			}
			if n, e := num.Sub(sum, b); n != a || e != api.OK {
				t.Errorf("%d + %d, less the second: %d %d", a, b, n, e)
			}
		}
	}
}
