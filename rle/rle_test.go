package rle_test

import (
	"math"
	"math/big"
	"regexp"
	"slices"
	"strconv"
	"strings"
	"testing"

	"gosper/api"
	"gosper/cells"
	"gosper/life"
	"gosper/rle"
	"gosper/token"
)

const (
	far  = 1 << 40
	head = "x = 3, y = 3\n"
)

// on is the list of some cells, X and Y of each.
func on(l ...int) (out []api.Cell) {
	for i := 0; i+1 < len(l); i += 2 {
		out = append(out, api.Cell{X: l[i], Y: l[i+1]})
	}
	return out
}

// row is so many cells to the right of one, and that one.
func row(x, y, n int) (out []api.Cell) {
	for i := range n {
		out = append(out, api.Cell{X: x + i, Y: y})
	}
	return out
}

// grid is the set that lines of text tell, a cell for each *.
func grid(lines ...string) (out []api.Cell) {
	for y, line := range lines {
		for x := range len(line) {
			if line[x] == '*' {
				out = append(out, api.Cell{X: x, Y: y})
			}
		}
	}
	return out
}

// moved is a list of cells elsewhere, which may be out of bounds.
func moved(l []api.Cell, dx, dy int) []api.Cell {
	out := slices.Clone(l)
	for i := range out {
		out[i].X, out[i].Y = out[i].X+dx, out[i].Y+dy
	}
	return out
}

// home is a set shifted so that its box's X and Y are 0.
func home(l []api.Cell) []api.Cell {
	if len(l) == 0 {
		return nil
	}
	x, y := l[0].X, l[0].Y
	for _, c := range l {
		x, y = min(x, c.X), min(y, c.Y)
	}
	return moved(l, -x, -y)
}

// What stands ahead of a pattern's head, what stands ahead of its items, with its two numbers, and bytes that stand there again and again.
var (
	remarks = regexp.MustCompile(`\A(?:#[^\n]*\n)*`)
	begins  = regexp.MustCompile(`\A(?:#[^\n]*\n)*x = (0|[1-9][0-9]*), y = (0|[1-9][0-9]*)(?:, rule = B3/S23)?\n`)
	again   = regexp.MustCompile(`b+|o+|\$+`)
)

// counted tells whether digits tell no more than 2^62 - 1.
func counted(digits string) bool {
	n, _ := new(big.Int).SetString(digits, 10)
	return n.BitLen() <= 62
}

// model is what Parse should answer, by patterns, and by a map of cells.
func model(s string) ([]api.Cell, api.Errno, int) {
	if len(s) > 20000 {
		return nil, api.ErrLong, 0
	}
	m := begins.FindStringSubmatch(s)
	if m == nil || !counted(m[1]) || !counted(m[2]) {
		return nil, api.ErrHead, len(remarks.FindString(s))
	}
	items, e, at := token.Lex(s[len(m[0]):])
	if e != api.OK {
		return nil, e, len(m[0]) + at
	}
	is := map[api.Cell]int{}
	x, y := 0, 0
	for _, i := range items {
		many := i.Tag == 'o' && len(is)+i.N > 2000
		switch {
		case i.Tag == '$':
			x, y = 0, y+i.N
		case i.Tag == 'b' || many:
			x += i.N
		default:
			for range i.N {
				is[api.Cell{X: x, Y: y}] = 1
				x++
			}
		}
		if x > far || y > far {
			return nil, api.ErrBounds, len(m[0]) + i.At
		}
		if many {
			return nil, api.ErrLong, len(m[0]) + i.At
		}
	}
	var out []api.Cell
	for c := range is {
		out = append(out, c)
	}
	set, _ := cells.Of(out)
	return set, api.OK, 0
}

// printed is what Print should answer of a small set: it is painted, cell by cell, what stands behind the last cells is rubbed out, and what is left is told by how often each byte stands there.
func printed(l []api.Cell) string {
	l = home(l)
	w, h := 0, 0
	for _, c := range l {
		w, h = max(w, c.X+1), max(h, c.Y+1)
	}
	lines := make([]string, h)
	for y := range lines {
		line := []byte(strings.Repeat("b", w))
		for _, c := range l {
			if c.Y == y {
				line[c.X] = 'o'
			}
		}
		lines[y] = strings.TrimRight(string(line), "b")
	}
	text := again.ReplaceAllStringFunc(strings.Join(lines, "$"), func(s string) string {
		if len(s) == 1 {
			return s
		}
		return strconv.Itoa(len(s)) + s[:1]
	})
	return "x = " + strconv.Itoa(w) + ", y = " + strconv.Itoa(h) + ", rule = B3/S23\n" + text + "!\n"
}

// short is the beginning of a text, for a test's remark.
func short(s string) string { return s[:min(len(s), 60)] }

// parses holds what Parse answers against what it should.
func parses(t *testing.T, s string, want []api.Cell, f api.Errno, place int) {
	t.Helper()
	got, e, at := rle.Parse(s)
	if e != f || at != place || !slices.Equal(got, want) {
		t.Errorf("%q (%d bytes): %v (%d) %d %d, not %v (%d) %d %d", short(s), len(s), got[:min(len(got), 9)], len(got), e, at, want[:min(len(want), 9)], len(want), f, place)
	}
}

func parsesModel(t *testing.T, s string) {
	t.Helper()
	want, f, place := model(s)
	parses(t, s, want, f, place)
}

// refused holds that a text is refused behind its head, at a place of what stands there, whatever stands ahead.
func refused(t *testing.T, s string, f api.Errno, place int) {
	t.Helper()
	for _, h := range []string{head, "#\n#C a\n" + head, "x = 0, y = 4611686018427387903, rule = B3/S23\n"} {
		parses(t, h+s, nil, f, len(h)+place)
	}
}

// prints holds what Print answers against what it should.
func prints(t *testing.T, l []api.Cell, want string) {
	t.Helper()
	if got, e := rle.Print(l); got != want || e != api.OK {
		t.Errorf("%v: %q %d, not %q", l[:min(len(l), 9)], short(got), e, short(want))
	}
}

// all are all texts of at most so many bytes, which are some.
func all(some string, most int) []string {
	out := []string{""}
	for from, n := 0, 0; n < most; n++ {
		to := len(out)
		for _, s := range out[from:to] {
			for _, b := range []byte(some) {
				out = append(out, s+string([]byte{b}))
			}
		}
		from = to
	}
	return out
}

// chance gives numbers below others, always the same ones.
func chance() func(int) int {
	x := 1
	return func(below int) int {
		x = x*6364136223846793005 + 1442695040888963407
		return int(uint(x) >> 33 % uint(below))
	}
}

// some is a set of at most so many cells, whose X and Y are below others.
func some(next func(int) int, most, w, h int) []api.Cell {
	var l []api.Cell
	for range next(most + 1) {
		l = append(l, api.Cell{X: next(w), Y: next(h)})
	}
	set, _ := cells.Of(l)
	return set
}

// quilt are all sets within a square of so many cells a side.
func quilt(side int) (out [][]api.Cell) {
	for n := range 1 << (side * side) {
		var l []api.Cell
		for i := range side * side {
			if n>>i&1 == 1 {
				l = append(l, api.Cell{X: i % side, Y: i / side})
			}
		}
		out = append(out, l)
	}
	return out
}

func TestExample(t *testing.T) {
	l := on(5, 5, 6, 5, 4, 6)
	prints(t, l, "x = 3, y = 2, rule = B3/S23\nb2o$o!\n")
	parses(t, "x = 3, y = 2, rule = B3/S23\nb2o$o!\n", on(1, 0, 2, 0, 0, 1), api.OK, 0)
}

// TestE1Heads goes by what may stand ahead of the items.
func TestE1Heads(t *testing.T) {
	for _, h := range []string{
		"x = 0, y = 0\n", "x = 0, y = 0, rule = B3/S23\n",
		"x = 1, y = 1\n", "x = 10, y = 20\n", "x = 9, y = 9, rule = B3/S23\n", // what it says makes no difference
		"x = 4611686018427387903, y = 4611686018427387903\n", "x = 4611686018427387903, y = 0, rule = B3/S23\n",
		"#\nx = 3, y = 1\n", "#\n#\n#\nx = 3, y = 1\n", "#C a remark\n#N its name\nx = 3, y = 1, rule = B3/S23\n",
		"#x = 3, y = 1\nx = 0, y = 0\n", "##\n# !\n#\x00\xff\r\nx = 3, y = 1\n", "#\u2028\nx = 3, y = 1\n",
		strings.Repeat("#\n", 9000) + "x = 3, y = 1\n", "#" + strings.Repeat("o", 19000) + "\nx = 3, y = 1\n",
	} {
		for _, b := range []string{"bo$2o!", "b o\n$\r\n2o\t!\n", "\n\nbo$2o! and what is behind the end\n"} {
			parses(t, h+b, on(1, 0, 0, 1, 1, 1), api.OK, 0)
		}
		parses(t, h, nil, api.ErrEnd, len(h))
		parses(t, h+"#\n!", nil, api.ErrToken, len(h)) // no remark stands behind the head
		parses(t, h+"x = 3, y = 1\n!", nil, api.ErrToken, len(h))
	}
}

// TestE1Head goes by texts that have none.
func TestE1Head(t *testing.T) {
	for _, s := range []string{
		"", "!", "o!", "\n", " ", "x", "x = ", "x = 1", "x = 1, y = 1", "x = 1, y = 1, rule = B3/S23", // nothing ends the line
		"\nx = 1, y = 1\n!", " x = 1, y = 1\n!", "\tx = 1, y = 1\n!", "\ufeffx = 1, y = 1\n!", "ax = 1, y = 1\n!",
		"x = 1, y = 1 \n!", "x = 1, y = 1\r\n!", "x = 1, y = 1,\n!", "x = 1, y = 1, \n!", "x = 1, y = 1!\n!", "x = 1, y = 1 rule = B3/S23\n!",
		"x=1,y=1\n!", "x =1, y = 1\n!", "x= 1, y = 1\n!", "x = 1,y = 1\n!", "x = 1, y=1\n!", "x  = 1, y = 1\n!", "x =  1, y = 1\n!", "x = 1 , y = 1\n!", "x = 1,  y = 1\n!", "x\t= 1, y = 1\n!",
		"X = 1, y = 1\n!", "x = 1, Y = 1\n!", "y = 1, x = 1\n!", "x = 1\n!", "x = 1, z = 1\n!", "x = 1, y = 1, z = 1\n!", "x = 1, x = 1\n!", "x = 1, y = 1, y = 1\n!",
		"1, y = 1\n!", "1, y = 1, rule = B3/S23\n!", "= 1, y = 1\n!", "x = 1, 1\n!", "x = 11\n!", "1\n!", "x = , y = 1\n!", "x = 1, y = \n!", "x = 1, y = , rule = B3/S23\n!", "x = , y = , rule = B3/S23\n!",
		// What chapter 3 has as no number, or as too great a one.
		"x = 01, y = 1\n!", "x = 1, y = 00\n!", "x = -1, y = 1\n!", "x = +1, y = 1\n!", "x = 1, y = -0\n!", "x = 1.0, y = 1\n!", "x = a, y = 1\n!", "x = 1, y = 0x1\n!", "x = \u0661, y = 1\n!", "x = 1, y = 1\x00\n!",
		"x = 4611686018427387904, y = 1\n!", "x = 1, y = 4611686018427387904\n!", "x = 1, y = 4611686018427387904, rule = B3/S23\n!", "x = 18446744073709551617, y = 1\n!", "x = 1, y = " + strings.Repeat("9", 40) + "\n!",
		// Other rules, and the rule told otherwise.
		"x = 1, y = 1, rule = B36/S23\n!", "x = 1, y = 1, rule = b3/s23\n!", "x = 1, y = 1, rule = 23/3\n!", "x = 1, y = 1, rule = S23/B3\n!", "x = 1, y = 1, rule = \n!", "x = 1, y = 1, rule = B3/S23 \n!", "x = 1, y = 1,rule = B3/S23\n!", "x = 1, y = 1, rule=B3/S23\n!", "x = 1, y = 1, rule = B3/S23:T5\n!", "x = 1, y = 1, rule = B3/S2\n!",
		"x = 1, y = 1, rule = B3/S23, rule = B3/S23\n!", "x = 1, rule = B3/S23, y = 1\n!", "x = 1, rule = B3/S23, y = 1, rule = B3/S23\n!", ", rule = B3/S23\n!", "rule = B3/S23\n!",
	} {
		for _, h := range []string{"", "#\n", "#C o!\n#\n", "#\n##x = 1, y = 1\n"} {
			parses(t, h+s, nil, api.ErrHead, len(h))
		}
	}
	for _, x := range []struct {
		s     string
		place int
	}{
		{"#", 0}, {"#x = 1, y = 1", 0}, {"#\n#", 2}, {"#\n#C o!", 2}, {"#\n", 2}, {"#a\n#b\n", 6}, {"##\n#c", 3}, // what no line feed ends is no remark
		{"#\n\n#\nx = 1, y = 1\n!", 2}, {"#\n #\nx = 1, y = 1\n!", 2}, {"#\r", 0}, {"#\rx = 1, y = 1\n!", 15},
		{"C\nx = 1, y = 1\n!", 0},
		{strings.Repeat("#\n", 10000), 20000}, {strings.Repeat("#", 20000), 0},
	} {
		parses(t, x.s, nil, api.ErrHead, x.place)
	}
	// Each byte of a head that is another one, or none, or twice.
	for _, h := range []string{"x = 1, y = 2\n", "#a\nx = 3, y = 0, rule = B3/S23\n"} {
		for i := range h {
			parsesModel(t, h[:i]+h[i+1:]+"2o!")
			parsesModel(t, h[:i]+h[i:i+1]+h[i:]+"2o!")
			for b := range 256 {
				parsesModel(t, h[:i]+string([]byte{byte(b)})+h[i+1:]+"2o!")
			}
		}
	}
}

// TestE1Lex goes by what chapter 4 refuses: it is told ahead of all that items do.
func TestE1Lex(t *testing.T) {
	for _, x := range []struct {
		s     string
		f     api.Errno
		place int
	}{
		{"", api.ErrEnd, 0}, {"bo", api.ErrEnd, 2}, {"2o \n", api.ErrEnd, 4},
		{"x!", api.ErrToken, 0}, {"bo 3x!", api.ErrToken, 3}, {"o2", api.ErrToken, 1}, {"b02o!", api.ErrToken, 1}, {"2 o!", api.ErrToken, 0}, {"o\n#\n!", api.ErrToken, 2},
		{"1099511627777b!", api.ErrBounds, 0}, {"o$1099511627777o!", api.ErrBounds, 2}, {"o " + strings.Repeat("9", 40) + "$!", api.ErrBounds, 2},
		{"1099511627776bb", api.ErrEnd, 15}, {"1099511627776b b x!", api.ErrToken, 17}, {"1099511627776bb1099511627777b!", api.ErrBounds, 15},
		{"2001o", api.ErrEnd, 5}, {"2001oo?", api.ErrToken, 6}, {"2001o1099511627777b!", api.ErrBounds, 5},
	} {
		refused(t, x.s, x.f, x.place)
	}
}

// TestE1Items goes by what items do.
func TestE1Items(t *testing.T) {
	for _, x := range []struct {
		s    string
		want []api.Cell
	}{
		{"!", nil}, {"b!", nil}, {"$!", nil}, {"5b3$2b$!", nil}, {"1099511627776b1099511627776$1099511627776b!", nil},
		{"o!", on(0, 0)}, {"1o!", on(0, 0)}, {"3o!", row(0, 0, 3)}, {"ooo!", row(0, 0, 3)}, {"o2o!", row(0, 0, 3)},
		{"bo!", on(1, 0)}, {"2b2o!", on(2, 0, 3, 0)}, {"bbo3bo!", on(2, 0, 6, 0)}, {"obo2b!", on(0, 0, 2, 0)},
		{"$o!", on(0, 1)}, {"3$o!", on(0, 3)}, {"$$$o!", on(0, 3)}, {"o$o$o!", on(0, 0, 0, 1, 0, 2)}, {"o2$o!", on(0, 0, 0, 2)},
		{"9b$o!", on(0, 1)}, {"9bo$bo2$2bo!", on(9, 0, 1, 1, 2, 3)}, // X is 0 again
		{"bo$2bo$3o!", on(1, 0, 2, 1, 0, 2, 1, 2, 2, 2)},
		{"o!o$o", on(0, 0)},
		{"1099511627775bo!", on(far-1, 0)}, {"1099511627774b2o!", on(far-2, 0, far-1, 0)}, {"1099511627776$o!", on(0, far)}, {"o1099511627775b$o!", on(0, 0, 0, 1)},
		{"1099511627776$1099511627775bo!", on(far-1, far)}, {"1099511627776b$1099511627775$o!", on(0, far)}, {"549755813888b549755813887bo!", on(far-1, 0)}, {"549755813888$549755813888$o!", on(0, far)},
		{"2000o!", row(0, 0, 2000)}, {"1999oo!", row(0, 0, 2000)}, {"1000o$1000o2$3b!", slices.Concat(row(0, 0, 1000), row(0, 1, 1000))},
		{"1099511625776b2000o!", row(far-2000, 0, 2000)}, {"2000o1099511625776b!", row(0, 0, 2000)}, {"2000o1099511627776$!", row(0, 0, 2000)},
	} {
		for _, h := range []string{head, "#\n" + head, "x = 0, y = 0, rule = B3/S23\n"} {
			parses(t, h+x.s, x.want, api.OK, 0)
		}
	}
	parses(t, head+strings.Repeat("o", 2000)+"!", row(0, 0, 2000), api.OK, 0)
	var want []api.Cell
	for y := range 2000 {
		want = append(want, api.Cell{X: 0, Y: y})
	}
	parses(t, head+strings.Repeat("o$", 2000)+"!", want, api.OK, 0)
}

// TestE1Bounds goes by items at whose end X, or Y, is too great, if there is a cell or not.
func TestE1Bounds(t *testing.T) {
	for _, x := range []struct {
		s     string
		place int
	}{
		{"1099511627776bb!", 14}, {"1099511627776bo!", 14}, {"1099511627775b2o!", 14}, {"b1099511627776b!", 1}, {"1099511627776$$!", 14}, {"$1099511627776$!", 1}, {"$ 1099511627776$o!", 2},
		{"o1099511627776b!", 1}, {"3b2o 1099511627772b!", 5}, {"1099511627776b1099511627776b!", 14}, {"1099511627776$1099511627776$!", 14},
		{"1099511627776$1099511627776bb!", 28}, {"1099511627776b1$1099511627776$!", 16}, {"549755813889b549755813888b!", 13}, {"549755813889$549755813888$!", 13},
		{"o1099511627776o!", 1}, {"2000o1099511625777b!", 5}, {"1099511625777b2000o!", 14},
		// The first one is told, of whatever kind.
		{"1099511627776bb$2001o!", 14}, {"1099511627776bb1099511627776b!", 14}, {"1099511627776$$2001o!", 14},
		// Of both at one item this one.
		{"1099511627776b2001o!", 14}, {"2000o1099511627776o!", 5}, {"1099511626000b2001o!", 14}, {"2000o1099511625776bo!", 19},
	} {
		refused(t, x.s, api.ErrBounds, x.place)
	}
}

// TestE1Long goes by items with which there are too many cells, and by texts of too many bytes.
func TestE1Long(t *testing.T) {
	for _, x := range []struct {
		s     string
		place int
	}{
		{"2001o!", 0}, {"2000oo!", 5}, {"2000obo!", 6}, {"2000o$o!", 6}, {"2000o9$3b 7o4b!", 10}, {"1000o$1001o!", 6}, {"o2000o!", 1}, {"1999o2o!", 5}, {"1000o1000o$$\nb\n1o!", 15},
		{"1099511627776o!", 0}, {"b1099511627775o!", 1}, {"o1099511627775o!", 1}, {"1000000000000o!", 0}, {"9o$1099511627776o!", 3}, // it ends soon
		// The first one is told, of whatever kind.
		{"2000o1099511625775boo!", 19}, {"2001o1099511627776b!", 0}, {"2000oo1099511627776$$!", 5}, {"2000o$o1099511627776b!", 6}, {"2001o2001o!", 0},
		{strings.Repeat("o", 2001) + "!", 2000}, {strings.Repeat("o$", 2001) + "!", 4000},
	} {
		refused(t, x.s, api.ErrLong, x.place)
	}
	for _, s := range []string{
		head + "o!" + strings.Repeat(" ", 20000-len(head)-1), strings.Repeat("#", 20001), strings.Repeat("\n", 20001), strings.Repeat("#\n", 10001), strings.Repeat("#\n", 9995) + "x = 0, y = 0\n",
		head + strings.Repeat("b", 20001-len(head)), head + "x" + strings.Repeat("b", 20000), head + "2001o!" + strings.Repeat("b", 20000), strings.Repeat("x", 1<<20), "#" + strings.Repeat("\u2003", 6667) + "\n" + head + "!",
	} {
		parses(t, s, nil, api.ErrLong, 0)
		parsesModel(t, s[:20000])
	}
	parses(t, head+"o!"+strings.Repeat("!", 20000-len(head)-2), on(0, 0), api.OK, 0)
	parses(t, head+strings.Repeat("b", 20000-len(head)-2)+"o!", on(20000-len(head)-2, 0), api.OK, 0)
	parses(t, head+strings.Repeat("b", 20000-len(head)), nil, api.ErrEnd, 20000)
	parses(t, strings.Repeat("#\n", 9992)+head+"o!", on(0, 0), api.OK, 0)
}

// TestE1Model holds texts of many kinds against the model.
func TestE1Model(t *testing.T) {
	for _, s := range all("bo$!2 ", 5) {
		parsesModel(t, head+s)
		parsesModel(t, "#\n"+head+s+"!")
	}
	for _, s := range all("#x\n", 7) {
		parsesModel(t, s)
		parsesModel(t, s+head+"2o!")
	}
	seen := map[api.Errno]int{}
	next := chance()
	often := []string{"b", "o", "$", "2b", "3o", "10$", "99o", "500o", "1o", " ", "\n", "\r\n", "\t"}
	seldom := []string{"x", "0b", "7", "1099511627776b", "1099511627776$", "1099511625000b", "1099511627776o", "1099511627777b", "5 o", "!", "\xff", "2000o", "2001o", "#\n"}
	for range 8000 {
		s := []string{"", "", "#\n", "#C o!\n#\n"}[next(4)] + []string{head, head, head, "x = 0, y = 9, rule = B3/S23\n", "x = 1, y = 2\r\n"}[next(5)]
		for range next(20) {
			s += often[next(len(often))]
			if next(20) == 0 {
				s += seldom[next(len(seldom))]
			}
		}
		if next(8) > 0 {
			s += "!"
		}
		_, e, _ := model(s)
		seen[e]++
		parsesModel(t, s)
	}
	for _, e := range []api.Errno{api.OK, api.ErrToken, api.ErrBounds, api.ErrLong, api.ErrEnd, api.ErrHead} {
		if seen[e] < 100 {
			t.Error("seldom met", e, seen[e])
		}
	}
}

func TestE2(t *testing.T) {
	for _, x := range []struct {
		l    []api.Cell
		want string
	}{
		{nil, "x = 0, y = 0, rule = B3/S23\n!\n"},
		{on(), "x = 0, y = 0, rule = B3/S23\n!\n"},
		{on(0, 0), "x = 1, y = 1, rule = B3/S23\no!\n"},
		{row(0, 0, 2), "x = 2, y = 1, rule = B3/S23\n2o!\n"},
		{row(-3, 7, 10), "x = 10, y = 1, rule = B3/S23\n10o!\n"},
		{on(0, 0, 2, 0), "x = 3, y = 1, rule = B3/S23\nobo!\n"},
		{on(-1, 0, 2, 0, 3, 0), "x = 5, y = 1, rule = B3/S23\no2b2o!\n"},
		{on(0, 0, 0, 1), "x = 1, y = 2, rule = B3/S23\no$o!\n"},
		{on(0, 0, 0, 2), "x = 1, y = 3, rule = B3/S23\no2$o!\n"},
		{on(4, -1, 3, 11), "x = 2, y = 13, rule = B3/S23\nbo12$o!\n"},
		{on(3, 0, 4, 1), "x = 2, y = 2, rule = B3/S23\no$bo!\n"}, // the first line begins at the box
		{on(5, 0, 0, 1), "x = 6, y = 2, rule = B3/S23\n5bo$o!\n"},
		{on(0, 0, 5, 1), "x = 6, y = 2, rule = B3/S23\no$5bo!\n"},
		{on(5, 0, 2, 3, 5, 4), "x = 4, y = 5, rule = B3/S23\n3bo3$o$3bo!\n"},
		{grid(".*.", "..*", "***"), "x = 3, y = 3, rule = B3/S23\nbo$2bo$3o!\n"},
		{grid("....", "**.*", "....", "....", ".*.."), "x = 4, y = 4, rule = B3/S23\n2obo3$bo!\n"},
		{row(0, 0, 2000), "x = 2000, y = 1, rule = B3/S23\n2000o!\n"},
	} {
		prints(t, x.l, x.want)
	}
	for _, l := range quilt(4) {
		prints(t, l, printed(l))
	}
	next := chance()
	for range 3000 {
		l := some(next, 40, 1+next(30), 1+next(30))
		prints(t, moved(l, next(99)-50, next(99)-50), printed(l))
	}
	for range 9 {
		l := some(next, 3000, 60, 50)
		prints(t, l, printed(l))
	}
}

// TestE2Wide goes by sets that are wider, or higher, than a set that is at its corner may be.
func TestE2Wide(t *testing.T) {
	for _, x := range []struct {
		l    []api.Cell
		want string
	}{
		{on(far, far), "x = 1, y = 1, rule = B3/S23\no!\n"}, {on(-far, -far), "x = 1, y = 1, rule = B3/S23\no!\n"}, {on(-far, far), "x = 1, y = 1, rule = B3/S23\no!\n"},
		{on(0, 0, far-1, 0), "x = 1099511627776, y = 1, rule = B3/S23\no1099511627774bo!\n"},
		{on(-far, 5, 0, 5), "x = 1099511627777, y = 1, rule = B3/S23\no1099511627775bo!\n"},
		{on(-far, 0, 1, 0), "x = 1099511627778, y = 1, rule = B3/S23\no1099511627776bo!\n"},
		{on(-far, 0, 0, 0, far, 0), "x = 2199023255553, y = 1, rule = B3/S23\no1099511627775bo1099511627775bo!\n"},
		{on(1, -far, 1, 0, 1, far), "x = 1, y = 2199023255553, rule = B3/S23\no1099511627776$o1099511627776$o!\n"},
		{on(0, -far, -far, 0, 1, 0, far, far-9), "x = 2199023255553, y = 2199023255544, rule = B3/S23\n1099511627776bo1099511627776$o1099511627776bo1099511627767$o!\n"},
		// Chapter 4 has no text of an item of more than 2^40.
		{on(-far, 0, 2, 0), "x = 1099511627779, y = 1, rule = B3/S23\noo!\n"},
		{on(-far, 0, far, 0), "x = 2199023255553, y = 1, rule = B3/S23\noo!\n"},
		{on(0, -far, 1, 1), "x = 2, y = 1099511627778, rule = B3/S23\nobo!\n"},
	} {
		prints(t, x.l, x.want)
	}
}

// TestE2Wrong goes by lists that are no sets.
func TestE2Wrong(t *testing.T) {
	for i, l := range [][]api.Cell{
		on(1, 0, 0, 0), on(0, 1, 0, 0), on(0, 0, 0, 0), on(0, 0, 1, 0, 1, 0), on(0, 0, 5, 2, 4, 1),
		on(far+1, 0), on(0, far+1), on(-far-1, 0), on(0, -far-1), on(0, 0, 0, far+1), on(math.MinInt, 0), on(0, math.MaxInt),
		row(0, 0, 2001), row(0, 0, 5000),
	} {
		if got, e := rle.Print(l); got != "" || e != api.ErrArg {
			t.Errorf("%d: %q %d", i, short(got), e)
		}
	}
}

// back holds that a set comes back, at its corner, and has the same text there and elsewhere.
func back(t *testing.T, l []api.Cell) {
	t.Helper()
	text, e := rle.Print(l)
	if e != api.OK {
		t.Errorf("%v: %d", l[:min(len(l), 9)], e)
	}
	parses(t, text, home(l), api.OK, 0)
	prints(t, home(l), text)
}

func TestE3Sets(t *testing.T) {
	next := chance()
	for _, l := range quilt(3) {
		for _, d := range [][2]int{{0, 0}, {-far, -far}, {far - 2, far - 2}, {-7, 1000000}, {next(far), -next(far)}} {
			back(t, moved(l, d[0], d[1]))
		}
	}
	for range 2000 {
		w, h := 1+next(1<<next(31)), 1+next(1<<next(31))
		back(t, moved(some(next, 300, w, h), next(far)-far/2, next(far)-far/2))
	}
	for _, l := range [][]api.Cell{
		on(0, 0, far-1, 0), on(0, 0, 0, far-1), on(0, 0, far-1, far-1), on(far-1, 0, 0, far-1), on(-far, -far, -1, -1), on(1, 1, far, far), on(-far/2, 3, far/2-1, 3),
		row(-1000, 5, 2000), slices.Concat(row(-5, -far, 1000), row(77, -1, 1000)),
	} {
		back(t, l)
	}
}

// TestE3Texts goes by texts: what they tell is told again.
func TestE3Texts(t *testing.T) {
	next := chance()
	texts := all("bo$2", 5)
	for range 2000 {
		s := ""
		for range next(60) {
			s += []string{"", "", "2", "17", "5000000000"}[next(5)] + string("b$"[next(2)]) + []string{"", "o", "3o", "oo", " o\r\n"}[next(5)]
		}
		texts = append(texts, s)
	}
	texts = append(texts, "o1099511627776$o", "1099511627775bo1099511627776$o", "1099511627776$1099511627775bo", "500o$500o$1000o")
	told := 0
	for _, s := range texts {
		first, e, _ := rle.Parse(head + s + "!")
		if e != api.OK {
			continue
		}
		told++
		back(t, first)
	}
	if told < 2500 {
		t.Error("seldom told", told)
	}
}

// TestE3Life goes by a pattern as it lives.
func TestE3Life(t *testing.T) {
	l, e, _ := rle.Parse("#N r\nx = 3, y = 3, rule = B3/S23\nb2o$2o$bo!\n")
	if e != api.OK || !slices.Equal(l, grid(".**", "**.", ".*.")) {
		t.Fatal(l, e)
	}
	for range 200 {
		l, _ = life.Next(l)
		back(t, l)
		prints(t, l, printed(l))
	}
}

// TestE3Long goes by sets whose text has so many bytes that E1 refuses it: it is the right one all the same.
func TestE3Long(t *testing.T) {
	const apart = 100000000
	var l []api.Cell
	for i := range 2000 {
		l = append(l, api.Cell{X: i * apart, Y: i * apart})
	}
	text, e := rle.Print(l)
	want := "x = 199900000001, y = 199900000001, rule = B3/S23\no"
	for i := 1; i < 2000; i++ {
		want += "100000000$" + strconv.Itoa(i*apart) + "bo"
	}
	if e != api.OK || text != want+"!\n" {
		t.Errorf("%q %d", short(text), e)
	}
	parses(t, text, nil, api.ErrLong, 0)
	// The last row that fits, byte by byte.
	for n := 1; n <= 2000; n++ {
		text, _ := rle.Print(l[:n])
		if len(text) > 20000 {
			parses(t, text, nil, api.ErrLong, 0)
			break
		}
		if n%50 == 0 || len(text) > 19900 {
			back(t, l[:n])
		}
	}
}

// TestR3 writes into all that comes out, and looks whether what is handed in stays as it was.
func TestR3(t *testing.T) {
	const s = "#\nx = 3, y = 3\nbo$2bo$3o!"
	first, _, _ := rle.Parse(s)
	second, _, _ := rle.Parse(s)
	want := slices.Clone(second)
	spare := first[:cap(first)]
	for i := range spare {
		spare[i] = api.Cell{X: -7, Y: -7}
	}
	if third, _, _ := rle.Parse(s); !slices.Equal(second, want) || !slices.Equal(third, want) {
		t.Error("shared", second, third)
	}

	whole := append(slices.Clone(want), api.Cell{X: 77, Y: -77}, api.Cell{X: 1})
	was := slices.Clone(whole)
	for range 2 {
		if got, e := rle.Print(whole[:len(want)]); got != "x = 3, y = 3, rule = B3/S23\nbo$2bo$3o!\n" || e != api.OK || !slices.Equal(whole, was) {
			t.Error(got, e, whole)
		}
	}
}
