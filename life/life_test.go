package life_test

import (
	"math"
	"slices"
	"testing"

	"gosper/api"
	"gosper/cells"
	"gosper/life"
)

const far = 1 << 40

// at is a list of cells: X, Y, X, Y and so on.
func at(l ...int) []api.Cell {
	out := []api.Cell{}
	for i := 0; i+1 < len(l); i += 2 {
		out = append(out, api.Cell{X: l[i], Y: l[i+1]})
	}
	return out
}

// row is so many cells of one Y, from X 0 on.
func row(n, y int) []api.Cell {
	out := []api.Cell{}
	for x := range n {
		out = append(out, api.Cell{X: x, Y: y})
	}
	return out
}

// apart is one pattern so many times, each fifty further to the right, or, behind forty of them, fifty further down.
func apart(l []api.Cell, n int) []api.Cell {
	out := []api.Cell{}
	for i := range n {
		for _, c := range l {
			out = append(out, api.Cell{X: c.X + i%40*50, Y: c.Y + i/40*50})
		}
	}
	return out
}

func set(t *testing.T, l []api.Cell) []api.Cell {
	t.Helper()
	out, e := cells.Of(l)
	if e != api.OK {
		t.Fatal("no set of it", e)
	}
	return out
}

func glider() []api.Cell { return at(1, 0, 2, 1, 0, 2, 1, 2, 2, 2) }

func block() []api.Cell { return at(0, 0, 1, 0, 0, 1, 1, 1) }

// corner becomes a block: 3 cells, then 4.
func corner() []api.Cell { return at(0, 0, 1, 0, 0, 1) }

// rPentomino goes on and on.
func rPentomino() []api.Cell { return at(1, 0, 2, 0, 0, 1, 1, 1, 1, 2) }

// squares are all sets of cells of a square of 3 a side, its top left corner at (0, 0).
func squares() [][]api.Cell {
	out := [][]api.Cell{}
	for bits := range 512 {
		l := []api.Cell{}
		for i := range 9 {
			if bits>>i&1 == 1 {
				l = append(l, api.Cell{X: i % 3, Y: i / 3})
			}
		}
		out = append(out, l)
	}
	return out
}

const side = 40

// board is a field of cells about (0, 0), the model that these tests go by: it looks at each place of the field, and counts what is about it.
type board [side][side]bool

func boardOf(l []api.Cell) *board {
	b := &board{}
	for _, c := range l {
		b[c.Y+side/2][c.X+side/2] = true
	}
	return b
}

func (b *board) count(x, y int) int {
	n := 0
	for _, d := range at(-1, -1, 0, -1, 1, -1, -1, 0, 1, 0, -1, 1, 0, 1, 1, 1) {
		if b[y+d.Y][x+d.X] {
			n++
		}
	}
	return n
}

func (b *board) next() *board {
	out := &board{}
	for y := 1; y < side-1; y++ {
		for x := 1; x < side-1; x++ {
			switch b.count(x, y) {
			case 2:
				out[y][x] = b[y][x]
			case 3:
				out[y][x] = true
			}
		}
	}
	return out
}

func (b *board) cells() []api.Cell {
	out := []api.Cell{}
	for y := range side {
		for x := range side {
			if b[y][x] {
				out = append(out, api.Cell{X: x - side/2, Y: y - side/2})
			}
		}
	}
	return out
}

// notSets are lists that are no sets, each by one thing alone.
func notSets() [][]api.Cell {
	return [][]api.Cell{
		at(0, 0, 0, 0),
		at(1, 0, 0, 0),
		at(0, 1, 0, 0),
		at(far+1, 0),
		at(-far-1, 0),
		at(0, far+1),
		at(0, -far-1),
		at(math.MinInt, 0),
		at(0, math.MaxInt),
		row(2001, 0),
	}
}

func TestB1(t *testing.T) {
	for n := -300; n <= 300; n++ {
		if got := life.Lives(false, n); got != (n == 3) {
			t.Error("dead", n, got)
		}
		if got := life.Lives(true, n); got != (n == 2 || n == 3) {
			t.Error("alive", n, got)
		}
	}
	for _, n := range []int{math.MinInt, math.MinInt + 2, math.MinInt + 3, 2 - 1<<32, 2 + 1<<32, 3 + 1<<32, math.MaxInt} {
		if life.Lives(false, n) || life.Lives(true, n) {
			t.Error(n)
		}
	}
}

func TestB2Example(t *testing.T) {
	if got, e := life.Next(at(0, 0, 1, 0, 2, 0)); e != api.OK || !slices.Equal(got, at(1, -1, 1, 0, 1, 1)) {
		t.Error(got, e)
	}
}

// TestB2 holds each set of a square of 3 a side, which are all cells that a middle one hangs on, against the model.
func TestB2(t *testing.T) {
	for _, l := range squares() {
		if got, e := life.Next(l); e != api.OK || !slices.Equal(got, boardOf(l).next().cells()) {
			t.Error(l, got, e)
		}
	}
	for i, l := range [][]api.Cell{nil, at(), at(7, -9)} {
		if got, e := life.Next(l); e != api.OK || len(got) != 0 {
			t.Error(i, got, e)
		}
	}
}

func TestB2Arg(t *testing.T) {
	for i, l := range notSets() {
		if got, e := life.Next(l); e != api.ErrArg || len(got) != 0 {
			t.Error("no set", i, len(got), e)
		}
	}
}

func TestB2Bounds(t *testing.T) {
	for i, x := range []struct {
		l, want []api.Cell
		e       api.Errno
	}{
		// What is born is out, on each of the four sides.
		{at(far, -1, far, 0, far, 1), nil, api.ErrBounds},
		{at(-far, -1, -far, 0, -far, 1), nil, api.ErrBounds},
		{at(-1, far, 0, far, 1, far), nil, api.ErrBounds},
		{at(-1, -far, 0, -far, 1, -far), nil, api.ErrBounds},
		// What is born stands on the last place that is within.
		{at(far-1, -1, far-1, 0, far-1, 1), at(far-2, 0, far-1, 0, far, 0), api.OK},
		{at(1-far, -1, 1-far, 0, 1-far, 1), at(-far, 0, 1-far, 0, 2-far, 0), api.OK},
		{at(-1, far-1, 0, far-1, 1, far-1), at(0, far-2, 0, far-1, 0, far), api.OK},
		{at(-1, 1-far, 0, 1-far, 1, 1-far), at(0, -far, 0, 1-far, 0, 2-far), api.OK},
		// Nothing is born beyond a block in a corner, and of two cells there nothing stays.
		{at(far-1, far-1, far, far-1, far-1, far, far, far), at(far-1, far-1, far, far-1, far-1, far, far, far), api.OK},
		{at(-far, -far, 1-far, -far, -far, 1-far, 1-far, 1-far), at(-far, -far, 1-far, -far, -far, 1-far, 1-far, 1-far), api.OK},
		{at(far, far-1, far, far), nil, api.OK},
		{at(-far, -far, 1-far, -far), nil, api.OK},
		// What goes out of the right side does not come in at the left one.
		{at(-far, 0, far, 0, -far, 1, far, 1, -far, 2), nil, api.ErrBounds},
		{at(-far, 0, far, 0, far, 1, -far, 2), nil, api.OK},
	} {
		if got, e := life.Next(x.l); e != x.e || !slices.Equal(got, x.want) {
			t.Error(i, got, e)
		}
	}
}

func TestB2Long(t *testing.T) {
	corners := set(t, apart(corner(), 500))
	blocks := set(t, apart(block(), 500))
	for i, x := range []struct {
		l []api.Cell
		n int
		e api.Errno
	}{
		{corners, 2000, api.OK},
		{blocks, 2000, api.OK},
		{row(668, 0), 3 * 666, api.OK},
		{row(669, 0), 0, api.ErrLong}, // 2001
		{set(t, append(row(3, -100), corners...)), 0, api.ErrLong},
		{row(2000, 0), 0, api.ErrLong},
		{row(668, far), 0, api.ErrBounds},
		{row(2000, far), 0, api.ErrBounds}, // of both errors the first one
		{row(2000, -far), 0, api.ErrBounds},
		{set(t, append(at(-far, -1, -far, 0, -far, 1), row(1900, 5)...)), 0, api.ErrBounds}, // one is out, thousands are not
	} {
		if got, e := life.Next(x.l); e != x.e || len(got) != x.n || !cells.Right(got) {
			t.Error(i, len(got), e)
		}
	}
	if got, _ := life.Next(corners); !slices.Equal(got, blocks) {
		t.Error(got)
	}
}

func TestB3(t *testing.T) {
	b := boardOf(rPentomino())
	for n := range 30 {
		if got, e := life.Run(rPentomino(), n); e != api.OK || !slices.Equal(got, b.cells()) {
			t.Error(n, got, e)
		}
		b = b.next()
	}
	for i, x := range []struct {
		l    []api.Cell
		n    int
		want []api.Cell
	}{
		{nil, 0, nil},
		{nil, 1000, nil},
		{at(5, 5), 0, at(5, 5)},
		{at(5, 5), 1, nil},
		{at(0, 0, 1, 0, 2, 0), 1, at(1, -1, 1, 0, 1, 1)},
		{at(0, 0, 1, 0, 2, 0), 999, at(1, -1, 1, 0, 1, 1)},
		{at(0, 0, 1, 0, 2, 0), 1000, at(0, 0, 1, 0, 2, 0)},
		{glider(), 1000, at(251, 250, 252, 251, 250, 252, 251, 252, 252, 252)},
		{row(2000, 0), 0, row(2000, 0)}, // no Next, so no error of it
		{row(2000, far), 0, row(2000, far)},
	} {
		if got, e := life.Run(x.l, x.n); e != api.OK || !slices.Equal(got, x.want) {
			t.Error(i, len(got), e)
		}
	}
}

func TestB3Arg(t *testing.T) {
	for _, n := range []int{math.MinInt, -1, 1001, 1 + 1<<32, math.MaxInt} {
		for i, l := range [][]api.Cell{nil, block(), row(2000, far)} {
			if got, e := life.Run(l, n); e != api.ErrArg || len(got) != 0 {
				t.Error(n, i, len(got), e)
			}
		}
	}
	for i, l := range notSets() {
		for _, n := range []int{-1, 0, 1, 1000, 1001} {
			if got, e := life.Run(l, n); e != api.ErrArg || len(got) != 0 {
				t.Error("no set", i, n, len(got), e)
			}
		}
	}
}

// TestB3Errors goes by sets that meet an error behind some generations: up to it all is well, from it on that error is told.
func TestB3Errors(t *testing.T) {
	up := func(l []api.Cell, dx, dy int) []api.Cell {
		out, e := cells.Shift(l, dx, dy)
		if e != api.OK {
			t.Fatal(e)
		}
		return out
	}
	rows := set(t, append(row(400, 0), row(400, 100)...))
	for i, x := range []struct {
		l    []api.Cell
		well int
		e    api.Errno
	}{
		{row(2000, 0), 0, api.ErrLong},
		{row(2000, far), 0, api.ErrBounds},
		{at(far, -1, far, 0, far, 1), 0, api.ErrBounds},
		{row(2000, far-1), 0, api.ErrLong},                                                              // long ahead of out
		{set(t, append(row(10, -far+1), set(t, apart(corner(), 490))...)), 1, api.ErrBounds},            // out, and not long
		{set(t, append(at(0, far, 1, far, 2, far), set(t, apart(corner(), 500))...)), 0, api.ErrBounds}, // both at once
		{up(glider(), far-3, far-3), 4, api.ErrBounds},
		{up(glider(), far-12, 0), 42, api.ErrBounds},
		{up(glider(), 0, far-102), 400, api.ErrBounds},
		{rows, 0, api.ErrLong},
		{set(t, apart(rPentomino(), 100)), 15, api.ErrLong}, // 19 cells each behind 15, 23 behind 16
	} {
		last, e := x.l, api.OK
		well := -1
		for n := 0; e == api.OK && n <= api.MaxRun; n++ {
			var got []api.Cell
			got, e = life.Run(x.l, n)
			if e != api.OK {
				if len(got) != 0 {
					t.Error(i, n, len(got))
				}
				break
			}
			if n > 0 {
				if last, _ = life.Next(last); !slices.Equal(got, last) {
					t.Error(i, n, len(got))
				}
			}
			well = n
		}
		if e != x.e || well != x.well {
			t.Error(i, well, e)
		}
		if got, f := life.Run(x.l, 1000); f != x.e || len(got) != 0 {
			t.Error(i, len(got), f)
		}
	}
}

// turns are the eight ways in which a set may be laid on itself's square.
func turns() []func(api.Cell) api.Cell {
	return []func(api.Cell) api.Cell{
		func(c api.Cell) api.Cell { return api.Cell{X: c.X, Y: c.Y} },
		func(c api.Cell) api.Cell { return api.Cell{X: -c.X, Y: c.Y} },
		func(c api.Cell) api.Cell { return api.Cell{X: c.X, Y: -c.Y} },
		func(c api.Cell) api.Cell { return api.Cell{X: -c.X, Y: -c.Y} },
		func(c api.Cell) api.Cell { return api.Cell{X: c.Y, Y: c.X} },
		func(c api.Cell) api.Cell { return api.Cell{X: -c.Y, Y: c.X} },
		func(c api.Cell) api.Cell { return api.Cell{X: c.Y, Y: -c.X} },
		func(c api.Cell) api.Cell { return api.Cell{X: -c.Y, Y: -c.X} },
	}
}

func turned(t *testing.T, l []api.Cell, turn func(api.Cell) api.Cell) []api.Cell {
	t.Helper()
	out := []api.Cell{}
	for _, c := range l {
		out = append(out, turn(c))
	}
	return set(t, out)
}

func run(t *testing.T, l []api.Cell, n int) []api.Cell {
	t.Helper()
	out, e := life.Run(l, n)
	if e != api.OK {
		t.Fatal("Run", n, e)
	}
	return out
}

func TestB4Turned(t *testing.T) {
	for _, l := range append(squares(), rPentomino(), row(10, 0)) {
		for _, n := range []int{1, 2, 5} {
			there := run(t, l, n)
			for k, turn := range turns() {
				if got, want := run(t, turned(t, l, turn), n), turned(t, there, turn); !slices.Equal(got, want) {
					t.Error(l, n, k, got, want)
				}
			}
		}
	}
}

// TestB4Shifted stands sets elsewhere, up to the bounds: there too they run as they do at (0, 0), while they have the room.
func TestB4Shifted(t *testing.T) {
	const n = 4
	for _, l := range append(squares(), rPentomino()) {
		there := run(t, l, n)
		for _, d := range at(1, 0, 0, -1, 12345, -67890, 1<<31, 1<<32, far-10, far-10, 10-far, far-10, far-10, 10-far, 10-far, 10-far, -(1 << 39), 1<<33) {
			moved, e := cells.Shift(l, d.X, d.Y)
			want, f := cells.Shift(there, d.X, d.Y)
			if e != api.OK || f != api.OK {
				t.Fatal(e, f)
			}
			if got := run(t, moved, n); !slices.Equal(got, want) {
				t.Error(l, d, got, want)
			}
		}
	}
}

// TestB4Apart runs two sets that are 2n + 1 apart, to the right, downwards and both, as one and alone.
func TestB4Apart(t *testing.T) {
	for i, one := range squares() {
		// From any set to any would be long: each meets a full square, and another that goes by a rule of thumb.
		for _, other := range [][]api.Cell{squares()[511], squares()[i*37%512]} {
			for n := range 4 {
				for _, d := range at(2*n+3, 0, 0, 2*n+3, 2*n+3, 2*n+3, -2*n-3, 2*n+3, 2*n+3, 1) {
					moved, _ := cells.Shift(other, d.X, d.Y)
					both := run(t, set(t, append(slices.Clone(one), moved...)), n)
					if want := set(t, append(run(t, one, n), run(t, moved, n)...)); !slices.Equal(both, want) {
						t.Error(one, other, n, d, both, want)
					}
				}
			}
		}
	}
	// One that is no further off than 2n does touch.
	if got := run(t, at(0, 0, 2, 0, 0, 1), 1); !slices.Equal(got, at(1, 0, 1, 1)) {
		t.Error(got)
	}
}

// TestB4FarApart runs sets in all corners at once: what stands at one side is not by what stands at the other.
func TestB4FarApart(t *testing.T) {
	l := at(-far+1, -far+1, -far+2, -far+1, -far+3, -far+1, far-3, -far+1, far-2, -far+1, far-1, -far+1, -far+1, far-1, -far+2, far-1, -far+3, far-1, far-3, far-1, far-2, far-1, far-1, far-1)
	want := at(-far+2, -far, far-2, -far, -far+2, -far+1, far-2, -far+1, -far+2, -far+2, far-2, -far+2, -far+2, far-2, far-2, far-2, -far+2, far-1, far-2, far-1, -far+2, far, far-2, far)
	if got := run(t, l, 1); !slices.Equal(got, want) {
		t.Error(got)
	}
	if got := run(t, l, 100); !slices.Equal(got, l) {
		t.Error(got)
	}
}

// TestR3 goes by lists that have spare room: neither they nor what stands behind them may be written into, and what comes out shares nothing with them.
func TestR3(t *testing.T) {
	behind := api.Cell{X: 77, Y: 77}
	for i, call := range []func(l []api.Cell) []api.Cell{
		func(l []api.Cell) []api.Cell { out, _ := life.Next(l); return out },
		func(l []api.Cell) []api.Cell { out, _ := life.Run(l, 0); return out },
		func(l []api.Cell) []api.Cell { out, _ := life.Run(l, 1); return out },
		func(l []api.Cell) []api.Cell { out, _ := life.Run(l, 2); return out },
	} {
		for _, l := range [][]api.Cell{block(), glider(), at(0, 0, 1, 0, 2, 0), at()} {
			whole := append(slices.Clone(l), behind, behind)
			was := slices.Clone(whole)
			part := whole[:len(l)]
			out := call(part)
			again := call(part)
			if !slices.Equal(whole, was) || !slices.Equal(out, again) {
				t.Error(i, "written into", whole)
			}
			for k := range out {
				out[k] = behind
			}
			spare := out[:cap(out)]
			for k := range spare {
				spare[k] = behind
			}
			if third := call(part); !slices.Equal(whole, was) || !slices.Equal(again, third) {
				t.Error(i, "shared", whole, again, third)
			}
		}
	}
}

// TestR4 asks the same again: though a map is gone through in no order, the answer is one.
func TestR4(t *testing.T) {
	both := set(t, append(at(-far, -1, -far, 0, -far, 1), row(1900, 5)...))
	l := run(t, rPentomino(), 100)
	first, _ := life.Next(l)
	for range 50 {
		if got, e := life.Next(l); e != api.OK || !slices.Equal(got, first) {
			t.Fatal(got, e)
		}
		if _, e := life.Next(both); e != api.ErrBounds {
			t.Fatal(e)
		}
	}
}
