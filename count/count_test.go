package count_test

import (
	"math"
	"math/big"
	"regexp"
	"slices"
	"strings"
	"testing"

	"gosper/api"
	"gosper/count"
)

const most = 1<<62 - 1

// digits is what a number's text is: these tests go by numbers of any size, of another library.
var digits = regexp.MustCompile(`^(0|[1-9][0-9]*)\z`)

// parsed is what Parse should answer.
func parsed(s string) (int, api.Errno) {
	if !digits.MatchString(s) {
		return 0, api.ErrText
	}
	n, _ := new(big.Int).SetString(s, 10)
	if n.Cmp(big.NewInt(most)) > 0 {
		return 0, api.ErrBig
	}
	return int(n.Int64()), api.OK
}

// summed is what Sum should answer.
func summed(l []int) (int, api.Errno) {
	n := new(big.Int)
	for _, e := range l {
		if e < 0 || e > 61 {
			return 0, api.ErrArg
		}
		n.Add(n, new(big.Int).Lsh(big.NewInt(1), uint(e)))
	}
	if n.Cmp(big.NewInt(most)) > 0 {
		return 0, api.ErrBig
	}
	return int(n.Int64()), api.OK
}

// numbers are those from 0 to the greatest one that stand at edges, by twos and by tens, and some between.
func numbers() []int {
	out := []int{most - 2, most - 1, most}
	for n := range 1100 {
		out = append(out, n)
	}
	for _, base := range []int{2, 10} {
		for n := base; n > 0 && n <= most; n *= base {
			for d := -2; d <= 2; d++ {
				if n+d >= 0 && n+d <= most {
					out = append(out, n+d)
				}
			}
		}
	}
	n := 1
	for range 2000 {
		n = n*6364136223846793005 + 1442695040888963407
		out = append(out, n&most, n&most>>(n&31))
	}
	return out
}

// notCounted are numbers that the package does not go by.
func notCounted() []int {
	return []int{math.MinInt, math.MinInt + 1, -most - 1, -most, -1 << 32, -10, -1, most + 1, most + 2, most + 11, math.MaxInt - 1, math.MaxInt}
}

// allExponents are those of the greatest number.
func allExponents() []int {
	out := []int{}
	for e := range 62 {
		out = append(out, e)
	}
	return out
}

// many is a list in which one exponent stands so many times.
func many(e, times int) []int {
	return slices.Repeat([]int{e}, times)
}

func TestC2Example(t *testing.T) {
	if got := count.Bits(10); !slices.Equal(got, []int{1, 3}) {
		t.Error(got)
	}
	if got, e := count.Sum(1, 1); got != 4 || e != api.OK {
		t.Error(got, e)
	}
}

func TestC1Text(t *testing.T) {
	for n, want := range map[int]string{
		0:                   "0",
		1:                   "1",
		9:                   "9",
		10:                  "10",
		100:                 "100",
		4096:                "4096",
		4611686018427387902: "4611686018427387902",
		4611686018427387903: "4611686018427387903",
	} {
		if got := count.Text(n); got != want {
			t.Error(n, got)
		}
	}
	for _, n := range numbers() {
		if got := count.Text(n); got != big.NewInt(int64(n)).String() || !digits.MatchString(got) {
			t.Error(n, got)
		}
	}
	for _, n := range notCounted() {
		if got := count.Text(n); got != "" {
			t.Error(n, got)
		}
	}
}

func TestC1Parse(t *testing.T) {
	for s, want := range map[string]struct {
		n int
		e api.Errno
	}{
		"0":                   {0, api.OK},
		"1":                   {1, api.OK},
		"9":                   {9, api.OK},
		"10":                  {10, api.OK},
		"100":                 {100, api.OK},
		"9007199254740993":    {9007199254740993, api.OK}, // no float has it
		"4611686018427387902": {most - 1, api.OK},
		"4611686018427387903": {most, api.OK},
		"4611686018427387904": {0, api.ErrBig},
		"4611686018427387909": {0, api.ErrBig},
		"4611686018427387910": {0, api.ErrBig},
		"9223372036854775807": {0, api.ErrBig},
		"9223372036854775808": {0, api.ErrBig},
		// These go round to small numbers, if they are reckoned first and held against the greatest one then.
		"18446744073709551616":                    {0, api.ErrBig},
		"18446744073709551623":                    {0, api.ErrBig},
		"36893488147419103232":                    {0, api.ErrBig},
		"184467440737095516160":                   {0, api.ErrBig},
		"340282366920938463463374607431768211456": {0, api.ErrBig},
		"10000000000000000000000000000000000":     {0, api.ErrBig},
	} {
		if n, e := count.Parse(s); n != want.n || e != want.e {
			t.Error(s, n, e)
		}
	}
	for i := -1000; i <= 1000; i++ {
		s := new(big.Int).Add(big.NewInt(most), big.NewInt(int64(i))).String()
		want, f := parsed(s)
		if n, e := count.Parse(s); n != want || e != f {
			t.Error(s, n, e)
		}
	}
	// As many digits as there may be, and more: the first too great number of each length, and the last one that is not.
	for k := range 60 {
		for _, s := range []string{"1" + strings.Repeat("0", k), strings.Repeat("9", k+1), "46116860184273879040"[:min(k+1, 20)] + strings.Repeat("0", max(0, k-19))} {
			want, f := parsed(s)
			if n, e := count.Parse(s); n != want || e != f {
				t.Error(s, n, e)
			}
		}
	}
}

// TestC1ParseText goes by texts that tell no number.
func TestC1ParseText(t *testing.T) {
	for _, s := range []string{
		"", " ", "-", "+", ".", "x", "00", "000", "01", "007", "0x", "0 ", "0-", "-0", "+0", "-1", "+1", "1-", "1+", "1.", "1.0", "1e3", "0x10", "0b1", "0o7", "1_000", "1,000",
		" 1", "1 ", "\t1", "1\n", "1\r\n", "\n", "1\x00", "\x001", "1 2", "a1", "1a", "9/", "9:", "/", ":",
		"\u0661", "1\u0661", "\uff11", "1\uff11", "\u00b2", "\u06f0", "\U0001d7ce",
		"\u0130", "\u0231", "1\u0330", "\U00010030", "1\U00010039", // their last bytes, as numbers, are those of digits
		"\xff", "1\xff", "\xff1", "\xb1", "1\xb1", "\xc0\xb1", "1\xe0\x80\xb1", "\xed\xa0\x80", "\ufffd", "1\ufffd",
		"0" + strings.Repeat("9", 40), // too great, too
	} {
		if n, e := count.Parse(s); n != 0 || e != api.ErrText {
			t.Errorf("%q: %d %d", s, n, e)
		}
	}
	// Whatever stands among the digits of a number, great or not, is told ahead of how great that is.
	for _, whole := range []string{"1", "10", "4611686018427387903", "4611686018427387904", strings.Repeat("9", 40)} {
		for i := range len(whole) + 1 {
			for _, mark := range []string{" ", "x", "/", ":", "-", "\x00", "\xff", "\u0661", "\u0130"} {
				s := whole[:i] + mark + whole[i:]
				if n, e := count.Parse(s); n != 0 || e != api.ErrText {
					t.Errorf("%q: %d %d", s, n, e)
				}
			}
		}
		if n, e := count.Parse("0" + whole); n != 0 || e != api.ErrText {
			t.Error(whole, n, e)
		}
	}
}

// TestC1ParseAll holds all texts of at most two bytes, and those of three with digits about any byte, against the model.
func TestC1ParseAll(t *testing.T) {
	texts := []string{""}
	for a := range 256 {
		texts = append(texts, string([]byte{byte(a)}))
		for b := range 256 {
			texts = append(texts, string([]byte{byte(a), byte(b)}))
		}
		for _, x := range "019" {
			for _, y := range "019" {
				texts = append(texts, string([]byte{byte(x), byte(a), byte(y)}))
			}
		}
	}
	for _, s := range texts {
		want, f := parsed(s)
		if n, e := count.Parse(s); n != want || e != f {
			t.Errorf("%q: %d %d", s, n, e)
		}
	}
}

// TestC1ParseLong goes by texts that are far too long to be reckoned: they end all the same.
func TestC1ParseLong(t *testing.T) {
	long := strings.Repeat("7", 1<<20)
	for s, want := range map[string]api.Errno{long: api.ErrBig, "0" + long: api.ErrText, long + " ": api.ErrText, "1" + strings.Repeat("0", 1<<20): api.ErrBig, strings.Repeat("0", 1<<20): api.ErrText} {
		if n, e := count.Parse(s); n != 0 || e != want {
			t.Error(len(s), s[:2], n, e)
		}
	}
}

func TestC2Bits(t *testing.T) {
	for e := range 62 {
		if got := count.Bits(1 << e); !slices.Equal(got, []int{e}) {
			t.Error(e, got)
		}
		if got := count.Bits(1<<(e+1) - 1); !slices.Equal(got, allExponents()[:e+1]) {
			t.Error(e, got)
		}
		if got, want := count.Bits(most-1<<e), slices.Delete(allExponents(), e, e+1); !slices.Equal(got, want) {
			t.Error(e, got)
		}
	}
	if got := count.Bits(0); len(got) != 0 {
		t.Error(got)
	}
	for _, n := range numbers() {
		sum, last := 0, -1
		for _, e := range count.Bits(n) {
			if e <= last || e > 61 {
				t.Fatal(n, e, "does not rise")
			}
			sum, last = sum+1<<e, e
		}
		if sum != n {
			t.Error(n, sum)
		}
	}
	for _, n := range notCounted() {
		if got := count.Bits(n); len(got) != 0 {
			t.Error(n, got)
		}
	}
}

func TestC2Sum(t *testing.T) {
	for i, x := range []struct {
		l []int
		n int
		e api.Errno
	}{
		{nil, 0, api.OK},
		{[]int{}, 0, api.OK},
		{[]int{0}, 1, api.OK},
		{[]int{61}, 1 << 61, api.OK},
		{[]int{1, 1}, 4, api.OK},
		{[]int{3, 1}, 10, api.OK}, // in whatever order
		{[]int{0, 5, 0, 5, 5}, 98, api.OK},
		{[]int{62}, 0, api.ErrArg},
		{[]int{63}, 0, api.ErrArg},
		{[]int{64}, 0, api.ErrArg},
		{[]int{-1}, 0, api.ErrArg},
		{[]int{1 << 32}, 0, api.ErrArg},
		{[]int{math.MinInt}, 0, api.ErrArg},
		{[]int{math.MaxInt}, 0, api.ErrArg},
		{[]int{1, 2, 62}, 0, api.ErrArg},
		{[]int{-1, 1, 2}, 0, api.ErrArg},
		{[]int{1, 64, 2}, 0, api.ErrArg},
		{[]int{61, 61}, 0, api.ErrBig},
		{[]int{61, 60, 60}, 0, api.ErrBig},
		{[]int{61, 61, -1}, 0, api.ErrArg}, // of both errors the first one
		{[]int{61, 61, 62}, 0, api.ErrArg},
		{[]int{-1, 61, 61}, 0, api.ErrArg},
		{allExponents(), most, api.OK},
		{append(allExponents(), 0), 0, api.ErrBig},
		{append(allExponents(), 61), 0, api.ErrBig},
		{append([]int{0, 0}, allExponents()[1:]...), 0, api.ErrBig},
		{append([]int{0}, allExponents()[1:]...), most, api.OK},
		// So many that the sum goes round, to what is too small or to 0, if nobody looks.
		{many(61, 3), 0, api.ErrBig},
		{many(61, 4), 0, api.ErrBig},
		{many(61, 5), 0, api.ErrBig},
		{many(61, 8), 0, api.ErrBig},
		{many(61, 9), 0, api.ErrBig},
		{append(many(61, 8), 3), 0, api.ErrBig},
		{append(many(61, 8), -1), 0, api.ErrArg},
		{append(many(61, 10007), 62), 0, api.ErrArg},
		{many(61, 1<<16), 0, api.ErrBig},
		// The same power again and again, up to what is counted, and beyond.
		{many(0, 100000), 100000, api.OK},
		{many(41, 1<<20), 1 << 61, api.OK},
		{many(42, 1<<20), 0, api.ErrBig},
		{many(42, 1<<20-1), most - (1<<42 - 1), api.OK},
		{append(many(42, 1<<20-1), allExponents()[:42]...), most, api.OK},
		{append(append(many(42, 1<<20-1), allExponents()[:42]...), 0), 0, api.ErrBig},
	} {
		if n, e := count.Sum(x.l...); n != x.n || e != x.e {
			t.Error(i, n, e)
		}
	}
}

// TestC2SumModel holds lists of many kinds, some with an exponent that may not be, against the model.
func TestC2SumModel(t *testing.T) {
	seen := map[api.Errno]int{}
	x := 1
	next := func(below int) int {
		x = x*6364136223846793005 + 1442695040888963407
		return int(uint(x) >> 33 % uint(below))
	}
	for range 20000 {
		l := []int{}
		least := next(62)
		for range next(40) {
			l = append(l, least+next(62-least))
		}
		if next(8) == 0 {
			l = append(l, next(200)-70)
		}
		want, f := summed(l)
		seen[f]++
		if n, e := count.Sum(l...); n != want || e != f {
			t.Error(l, n, e)
		}
	}
	for _, e := range []api.Errno{api.OK, api.ErrArg, api.ErrBig} {
		if seen[e] < 100 {
			t.Error("seldom met", e, seen[e])
		}
	}
}

func TestC3(t *testing.T) {
	for _, n := range numbers() {
		if got, e := count.Parse(count.Text(n)); got != n || e != api.OK {
			t.Error(n, got, e)
		}
		if got, e := count.Sum(count.Bits(n)...); got != n || e != api.OK {
			t.Error(n, got, e)
		}
		falling := count.Bits(n)
		slices.Reverse(falling)
		if got, e := count.Sum(falling...); got != n || e != api.OK {
			t.Error(n, got, e)
		}
	}
}

// TestR3 writes into all that comes out, and looks whether what is handed in stays as it was.
func TestR3(t *testing.T) {
	for _, n := range []int{1, 10, 1000, most} {
		first, second := count.Bits(n), count.Bits(n)
		for _, l := range [][]int{first, first[:cap(first)]} {
			for i := range l {
				l[i] = -7
			}
		}
		if third := count.Bits(n); !slices.Equal(second, third) {
			t.Error("shared", n, second, third)
		}
	}
	whole := []int{5, 1, 1, 61, 77, 77}
	was := slices.Clone(whole)
	for range 2 {
		if n, e := count.Sum(whole[:4]...); n != 1<<61+36 || e != api.OK || !slices.Equal(whole, was) {
			t.Error(n, e, whole)
		}
	}
}
