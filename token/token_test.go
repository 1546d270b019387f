package token_test

import (
	"math"
	"math/big"
	"regexp"
	"slices"
	"strconv"
	"strings"
	"testing"

	"gosper/api"
	"gosper/token"
)

const most = 1 << 40

// it is an item: so many of a tag, at a place.
func it(n int, tag byte, at int) api.Item {
	return api.Item{Tag: tag, N: n, At: at}
}

func its(l ...api.Item) []api.Item { return l }

// What the model reads: the blanks ahead of what comes next, the digits of that, and the byte behind them.
var (
	blank  = regexp.MustCompile(`\A[ \t\n\r]*`)
	digits = regexp.MustCompile(`\A[0-9]*`)
)

// model is what Lex should answer. It goes by patterns, and by numbers of any size, of other libraries.
func model(s string) ([]api.Item, api.Errno, int) {
	if len(s) > 20000 {
		return nil, api.ErrLong, 0
	}
	var out []api.Item
	for at := 0; ; {
		at += len(blank.FindString(s[at:]))
		if at == len(s) {
			return nil, api.ErrEnd, at
		}
		if s[at] == '!' {
			return out, api.OK, at
		}
		number := digits.FindString(s[at:])
		behind := at + len(number)
		if behind == len(s) || !strings.Contains("bo$", s[behind:behind+1]) || len(number) > 0 && number[0] == '0' {
			return nil, api.ErrToken, at
		}
		n := big.NewInt(1)
		if number != "" {
			n.SetString(number, 10)
		}
		if n.Cmp(big.NewInt(most)) > 0 {
			return nil, api.ErrBounds, at
		}
		out = append(out, it(int(n.Int64()), s[behind], at))
		at = behind + 1
	}
}

// textModel is what Text should answer.
func textModel(l []api.Item) string {
	out := ""
	for _, i := range l {
		switch {
		case i.Tag != 'b' && i.Tag != 'o' && i.Tag != '$', i.N < 1, i.N > most:
		case i.N == 1:
			out += string(rune(i.Tag))
		default:
			out += strconv.Itoa(i.N) + string(rune(i.Tag))
		}
	}
	return out
}

// short is the beginning of a text, for a test's remark.
func short(s string) string { return s[:min(len(s), 40)] }

// holds holds what Lex answers against what it should.
func holds(t *testing.T, s string, want []api.Item, f api.Errno, place int) {
	t.Helper()
	got, e, at := token.Lex(s)
	if e != f || at != place || !slices.Equal(got, want) {
		t.Errorf("%q (%d bytes): %v %d %d, not %v %d %d", short(s), len(s), got[:min(len(got), 9)], e, at, want[:min(len(want), 9)], f, place)
	}
}

func holdsModel(t *testing.T, s string) {
	t.Helper()
	want, f, place := model(s)
	holds(t, s, want, f, place)
}

// all are all texts of at most so many bytes, which are some.
func all(some string, most int) []string {
	out := []string{""}
	for from, n := 0, 0; n < most; n++ {
		to := len(out)
		for _, s := range out[from:to] {
			for _, b := range []byte(some) {
				out = append(out, s+string([]byte{b}))
			}
		}
		from = to
	}
	return out
}

// chance gives numbers below others, always the same ones.
func chance() func(int) int {
	x := 1
	return func(below int) int {
		x = x*6364136223846793005 + 1442695040888963407
		return int(uint(x) >> 33 % uint(below))
	}
}

func TestD1Example(t *testing.T) {
	holds(t, "2bo $!", its(it(2, 'b', 0), it(1, 'o', 2), it(1, '$', 4)), api.OK, 5)
}

// TestD1Items goes by texts that are right.
func TestD1Items(t *testing.T) {
	for _, x := range []struct {
		s     string
		want  []api.Item
		place int
	}{
		{"!", nil, 0},
		{" \t\n\r!", nil, 4},
		{"b!", its(it(1, 'b', 0)), 1},
		{"o!", its(it(1, 'o', 0)), 1},
		{"$!", its(it(1, '$', 0)), 1},
		{"1b!", its(it(1, 'b', 0)), 2}, // a 1 may be told
		{"9o!", its(it(9, 'o', 0)), 2},
		{"10$!", its(it(10, '$', 0)), 3},
		{"100b20o3$!", its(it(100, 'b', 0), it(20, 'o', 4), it(3, '$', 7)), 9},
		{"bb2bb!", its(it(1, 'b', 0), it(1, 'b', 1), it(2, 'b', 2), it(1, 'b', 4)), 5}, // the same tags stay apart
		{"$$2$o!", its(it(1, '$', 0), it(1, '$', 1), it(2, '$', 2), it(1, 'o', 4)), 5},
		// Blanks: At is where the item begins, not where they do.
		{" b\to\n$\r!", its(it(1, 'b', 1), it(1, 'o', 3), it(1, '$', 5)), 7},
		{"\r\n\r\n12o \t ! ", its(it(12, 'o', 4)), 10},
		{"b\n\n\n\n2o!", its(it(1, 'b', 0), it(2, 'o', 5)), 7},
		// What stands behind the end is nothing to it.
		{"!!", nil, 0},
		{"!x", nil, 0},
		{"o!\x00\xff 0b 99999999999999b", its(it(1, 'o', 0)), 1},
		{"b!2o!", its(it(1, 'b', 0)), 1},
		{"1099511627776b!", its(it(most, 'b', 0)), 14},
		{"1099511627776$1099511627775o!", its(it(most, '$', 0), it(most-1, 'o', 14)), 28},
	} {
		holds(t, x.s, x.want, api.OK, x.place)
	}
}

// TestD1Token goes by texts that have what is no item.
func TestD1Token(t *testing.T) {
	for _, x := range []struct {
		s     string
		place int
	}{
		{"x", 0}, {"x!", 0}, {"bx!", 1}, {"  b  x!", 5}, {"b3x!", 1}, {"b 3x!", 2},
		{"B!", 0}, {"O!", 0}, {".!", 0}, {"#!", 0}, {"a!", 0}, {"c!", 0}, {"n!", 0}, {"p!", 0}, {"%!", 0}, // next to what is right
		{"\x00!", 0}, {"\v!", 0}, {"\f!", 0}, {"\b!", 0}, {"\x85!", 0}, {"\xa0!", 0}, {"\u00a0!", 0}, {"\u2003!", 0}, // no blanks of these
		{"\xe2!", 0}, {"b\xef!", 1}, {"\u0062\u0300!", 1}, {"\uff4f!", 0}, {"\u0161!", 0}, {"\u0262!", 0}, {"\u0124!", 0}, {"\u0120!", 0}, {"\u0121", 0}, // their last bytes, as numbers, would do
		// Nothing may stand between the digits and the tag.
		{"2 b!", 0}, {"2\nb!", 0}, {"b2\r\nb!", 1}, {"b2\tb!", 1}, {"2!", 0}, {"b2!", 1}, {"o 17!", 2},
		// Nothing is behind the digits.
		{"2", 0}, {"b2", 1}, {"b 1234", 2}, {"1", 0}, {"0", 0},
		// A 0 ahead.
		{"0b!", 0}, {"00b!", 0}, {"01b!", 0}, {"o02$!", 1}, {"b 0010o!", 2}, {"0!", 0}, {"0x!", 0}, {"0", 0},
		{"-1b!", 0}, {"+1b!", 0}, {"1.0b!", 0}, {"1,0b!", 0}, {"1_0b!", 0}, {"1e3b!", 0}, {"0x1b!", 0}, {"b-!", 1},
		{"\u0661b!", 0}, {"1\u0661b!", 0}, {"\uff11b!", 0}, {"\u0132b!", 0}, {"\u00b2o!", 0}, // other digits
		// It is told ahead of a number that is too great.
		{"1099511627777", 0}, {"1099511627777x!", 0}, {"1099511627777!", 0}, {"1099511627777 b!", 0}, {"01099511627777b!", 0}, {"o" + strings.Repeat("9", 40), 1}, {"o0" + strings.Repeat("9", 40) + "o!", 1},
		// The first one that is wrong is told.
		{"bxy1099511627777b!", 1}, {"bx 1099511627777b", 1}, {"ox", 1}, {"b01o0b", 1},
	} {
		holds(t, x.s, nil, api.ErrToken, x.place)
	}
}

// TestD1Bounds goes by numbers that are too great, however many digits they have.
func TestD1Bounds(t *testing.T) {
	for _, x := range []struct {
		s     string
		place int
	}{
		{"1099511627777b!", 0}, {"1099511627777o", 0}, {"1099511627777$!", 0},
		{"b1099511627777b!", 1}, {"2o\n 1099511627777b!", 4},
		{"1099511627780b!", 0}, {"2199023255552b!", 0}, {"10995116277760b!", 0}, {"4503599627370496b!", 0},
		{"4611686018427387903b!", 0}, {"4611686018427387904b!", 0}, {"9223372036854775807b!", 0}, {"9223372036854775808b!", 0},
		// These go round to numbers that would do, or to those below 0.
		{"18446744073709551615b!", 0}, {"18446744073709551616b!", 0}, {"18446744073709551617b!", 0}, {"18446744073709551626o!", 0}, {"4294967297b99999999999999999999o!", 11},
		{strings.Repeat("9", 40) + "$!", 0}, {"b" + strings.Repeat("1", 19990) + "b!", 1}, {"1" + strings.Repeat("0", 19998) + "o", 0},
		// The first one that is wrong is told.
		{"1099511627777bx!", 0}, {"1099511627777b0b!", 0}, {"1099511627777b", 0}, {"o1099511627777b 2", 1},
	} {
		holds(t, x.s, nil, api.ErrBounds, x.place)
	}
	for d := -100; d <= 100; d++ {
		holdsModel(t, " "+strconv.Itoa(most+d)+"o!")
	}
	// Of each number of digits the first and the last one.
	for k := range 60 {
		for _, tag := range "bo$" {
			holdsModel(t, "1"+strings.Repeat("0", k)+string(tag)+"!")
			holdsModel(t, strings.Repeat("9", k+1)+string(tag)+"!")
		}
	}
}

// TestD1End goes by texts that do not end.
func TestD1End(t *testing.T) {
	for _, s := range []string{"", " ", "\r\n", "b", "b2o", "b  ", "b\n", " b o $ ", "1099511627776b", "$$$\t", strings.Repeat(" ", 20000), strings.Repeat("o", 20000)} {
		holds(t, s, nil, api.ErrEnd, len(s))
	}
}

// TestD1Long goes by how long a text is: that is told ahead of whatever stands in it.
func TestD1Long(t *testing.T) {
	for _, s := range []string{
		strings.Repeat(" ", 20001),
		"!" + strings.Repeat(" ", 20000),
		"x" + strings.Repeat("b", 20000),
		strings.Repeat("o", 20000) + "!",
		"1099511627777b" + strings.Repeat("o", 20000),
		strings.Repeat("\u2003", 6667), // fewer runes
		strings.Repeat("b", 1<<20),
	} {
		holds(t, s, nil, api.ErrLong, 0)
		holdsModel(t, s[:20000])
	}
	var want []api.Item
	for i := range 19999 {
		want = append(want, it(1, "bo$"[i%3], i))
	}
	holds(t, strings.Repeat("bo$", 6667)[:19999]+"!", want, api.OK, 19999)
	want = nil
	for i := range 9999 {
		want = append(want, it(i%9+1, 'o', 2*i))
	}
	holds(t, strings.Repeat("1o2o3o4o5o6o7o8o9o", 1111)+" !", want, api.OK, 19999)
	holds(t, strings.Repeat(" ", 19999)+"!", nil, api.OK, 19999)
	holds(t, "b"+strings.Repeat("\n", 19997)+"o!", its(it(1, 'b', 0), it(1, 'o', 19998)), api.OK, 19999)
	holds(t, strings.Repeat(" ", 19986)+"1099511627777b", nil, api.ErrBounds, 19986)
	holds(t, strings.Repeat(" ", 19999)+"2", nil, api.ErrToken, 19999)
	holds(t, "!"+strings.Repeat("x", 19999), nil, api.OK, 0)
}

// TestD1All holds all small texts against the model.
func TestD1All(t *testing.T) {
	for _, s := range all("bo$!012 x", 5) {
		holdsModel(t, s)
	}
	for a := range 256 {
		for b := range 256 {
			holdsModel(t, string([]byte{byte(a), byte(b)}))
		}
		x := string([]byte{byte(a)})
		for _, s := range []string{"", "b", "3", "0", " "} {
			for _, u := range []string{"", "!", "o!", "7$!", " b", "0o!"} {
				holdsModel(t, s+x+u)
			}
		}
	}
}

// TestD1Model holds texts of many kinds, most of them right, against the model.
func TestD1Model(t *testing.T) {
	seen := map[api.Errno]int{}
	next := chance()
	parts := []string{"b", "o", "$", "2b", "3o", "10$", "999999o", "1o", " ", "\n", "\r\n", "\t"}
	rare := []string{"x", "0b", "7", "1099511627776b", "1099511627777b", "5 o", "!", "\xff", "99999999999999999999o"}
	for range 30000 {
		s := ""
		for range next(20) {
			s += parts[next(len(parts))]
			if next(40) == 0 {
				s += rare[next(len(rare))]
			}
		}
		if next(4) > 0 {
			s += "!"
		}
		_, e, _ := model(s)
		seen[e]++
		holdsModel(t, s)
	}
	for _, e := range []api.Errno{api.OK, api.ErrToken, api.ErrBounds, api.ErrEnd} {
		if seen[e] < 100 {
			t.Error("seldom met", e, seen[e])
		}
	}
}

func TestD2(t *testing.T) {
	for _, x := range []struct {
		l    []api.Item
		want string
	}{
		{nil, ""},
		{its(), ""},
		{its(it(1, 'b', 0)), "b"},
		{its(it(2, 'o', 0)), "2o"},
		{its(it(9, '$', 0), it(10, '$', 0), it(100, 'b', 0)), "9$10$100b"},
		{its(it(2, 'b', 0), it(1, 'o', 2), it(1, '$', 4)), "2bo$"},                                 // the chapter's example
		{its(it(1, 'o', 0), it(1, 'o', 0), it(3, 'o', 0), it(1, '$', 0), it(1, '$', 0)), "oo3o$$"}, // they are not put together
		{its(it(7, 'o', 99), it(1, 'b', -5), it(2, '$', math.MinInt)), "7ob2$"},                    // wherever they stood
		{its(it(most, 'b', 0), it(most-1, 'o', 0), it(most, '$', 0)), "1099511627776b1099511627775o1099511627776$"},
		{its(it(most+1, 'b', 0), it(most+1, 'o', 0), it(most+1, '$', 0)), ""},
		{its(it(0, 'b', 0), it(0, 'o', 0), it(0, '$', 0)), ""},
		{its(it(-1, 'b', 0), it(-1, 'o', 0), it(-1, '$', 0)), ""},
		{its(it(math.MinInt, 'b', 0), it(math.MaxInt, 'o', 0), it(1<<62, '$', 0), it(1<<32+most, 'b', 0)), ""},
		{its(it(1, '!', 0), it(1, 0, 0), it(1, 'x', 0), it(2, 'B', 0), it(2, ' ', 0), it(3, '1', 0), it(4, 0xff, 0)), ""},
		{its(it(0, 'x', 0), it(most+1, '!', 0)), ""},
		// The others are told all the same.
		{its(it(3, 'b', 0), it(1, 'x', 0), it(0, 'o', 0), it(2, 'o', 0), it(most+1, 'o', 0), it(1, '$', 0), it(-7, '$', 0)), "3b2o$"},
	} {
		if got := token.Text(x.l...); got != x.want {
			t.Errorf("%v: %q", x.l, got)
		}
	}
	for tag := range 256 {
		for _, n := range []int{-1, 0, 1, 2, 10, most - 1, most, most + 1, 1 << 62, math.MaxInt} {
			l := its(it(n, byte(tag), 3))
			want := textModel(l)
			if got := token.Text(l...); got != want {
				t.Errorf("%v: %q", l, got)
			}
			if got := token.Text(it(1, 'o', 0), l[0], it(5, 'b', 0)); got != "o"+want+"5b" {
				t.Errorf("%v among others: %q", l, got)
			}
		}
	}
}

// TestD2Many goes by more items than Lex would tell.
func TestD2Many(t *testing.T) {
	var l []api.Item
	for i := range 100000 {
		l = append(l, it(i%1000, "bo$!"[i%4], i))
	}
	var want strings.Builder
	for _, i := range l {
		want.WriteString(textModel(its(i)))
	}
	if got := token.Text(l...); got != want.String() {
		t.Error(len(got), want.Len())
	}
}

// placeless are items without their places.
func placeless(l []api.Item) []api.Item {
	out := slices.Clone(l)
	for i := range out {
		out[i].At = 0
	}
	return out
}

func TestD3(t *testing.T) {
	next := chance()
	texts := all("bo$! 12", 5)
	for range 2000 {
		s := ""
		for range next(30) {
			s += []string{"", "1", "7", "40", "1099511627776"}[next(5)] + string("bo$"[next(3)]) + []string{"", " ", "\r\n"}[next(3)]
		}
		texts = append(texts, s+"!")
	}
	texts = append(texts, strings.Repeat("b", 19999)+"!", strings.Repeat("1o", 9999)+"!", strings.Repeat("1099511627776$", 1428)+"!")
	told := 0
	for _, s := range texts {
		first, e, _ := token.Lex(s)
		if e != api.OK {
			continue
		}
		told++
		text := token.Text(first...) + "!"
		second, e, end := token.Lex(text)
		if e != api.OK || end != len(text)-1 || !slices.Equal(placeless(first), placeless(second)) {
			t.Errorf("%q, %q: %d %d", short(s), short(text), e, end)
		}
		if again := token.Text(second...) + "!"; again != text {
			t.Errorf("%q: %q", short(text), short(again))
		}
	}
	if told < 3000 {
		t.Error("seldom told", told)
	}
}

// TestR3 writes into all that comes out, and looks whether what is handed in stays as it was.
func TestR3(t *testing.T) {
	const s = "2bo $12o3$\nbbb!"
	first, _, _ := token.Lex(s)
	second, _, _ := token.Lex(s)
	want := slices.Clone(second)
	spare := first[:cap(first)]
	for i := range spare {
		spare[i] = it(-7, 'x', -7)
	}
	if third, _, _ := token.Lex(s); !slices.Equal(second, want) || !slices.Equal(third, want) {
		t.Error("shared", second, third)
	}

	whole := append(slices.Clone(want), it(77, 'x', 77), it(77, 'o', 77))
	was := slices.Clone(whole)
	for range 2 {
		if got := token.Text(whole[:len(want)]...); got != "2bo$12o3$bbb" || !slices.Equal(whole, was) {
			t.Error(got, whole)
		}
	}
}
