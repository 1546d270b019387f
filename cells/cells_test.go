package cells_test

import (
	"math"
	"slices"
	"testing"

	"gosper/api"
	"gosper/cells"
)

const far = 1 << 40

// at is a list of cells: X, Y, X, Y and so on.
func at(l ...int) []api.Cell {
	out := []api.Cell{}
	for i := 0; i+1 < len(l); i += 2 {
		out = append(out, api.Cell{X: l[i], Y: l[i+1]})
	}
	return out
}

// row is so many cells of Y 0, from X 0 on.
func row(n int) []api.Cell {
	out := []api.Cell{}
	for x := range n {
		out = append(out, api.Cell{X: x})
	}
	return out
}

// small are all lists of at most three cells of a square of 3 a side about (0, 0).
func small() [][]api.Cell {
	out := [][]api.Cell{nil}
	for from, n := 0, 0; n < 3; n++ {
		to := len(out)
		for _, l := range out[from:to] {
			for i := range 9 {
				out = append(out, append(slices.Clone(l), api.Cell{X: i%3 - 1, Y: i/3 - 1}))
			}
		}
		from = to
	}
	return out
}

// model is the set of cells of that square that a list has, found by looking at each place of it in order.
func model(has func(api.Cell) bool) []api.Cell {
	out := []api.Cell{}
	for y := -1; y <= 1; y++ {
		for x := -1; x <= 1; x++ {
			if c := (api.Cell{X: x, Y: y}); has(c) {
				out = append(out, c)
			}
		}
	}
	return out
}

func in(l []api.Cell) func(api.Cell) bool {
	return func(c api.Cell) bool {
		for _, d := range l {
			if d == c {
				return true
			}
		}
		return false
	}
}

// notSets are lists that are no sets, each by one thing alone.
func notSets() [][]api.Cell {
	return [][]api.Cell{
		at(0, 0, 0, 0),             // the same twice
		at(1, 0, 0, 0),             // X falls
		at(0, 1, 0, 0),             // Y falls
		at(0, 1, 1, 0),             // Y falls, though X rises
		at(0, 0, 1, 0, 2, 0, 1, 0), // falls at the end
		at(far+1, 0),
		at(-far-1, 0),
		at(0, far+1),
		at(0, -far-1),
		at(0, 0, far+1, 0), // the last one is out
		at(math.MinInt, 0),
		at(0, math.MaxInt),
		row(2001),
	}
}

func sets() [][]api.Cell {
	return [][]api.Cell{
		nil,
		at(),
		at(0, 0),
		at(0, 0, 1, 0),
		at(1, 0, 0, 1), // X falls, but Y rises
		at(-far, -far, far, -far, -far, far, far, far),
		row(2000),
	}
}

func TestA1Right(t *testing.T) {
	for i, l := range sets() {
		if !cells.Right(l) {
			t.Error("set", i)
		}
	}
	for i, l := range notSets() {
		if cells.Right(l) {
			t.Error("no set", i)
		}
	}
	for _, l := range small() {
		if got, want := cells.Right(l), slices.Equal(l, model(in(l))); got != want {
			t.Error(l, got)
		}
	}
}

func TestA1Has(t *testing.T) {
	for _, l := range small() {
		for _, c := range model(func(api.Cell) bool { return true }) {
			if got := cells.Has(l, c); got != in(l)(c) {
				t.Error(l, c, got)
			}
		}
	}
	// Any list: one that falls, one beyond bounds, one that is too long.
	for i, x := range []struct {
		l    []api.Cell
		c    api.Cell
		want bool
	}{
		{nil, api.Cell{}, false},
		{at(9, 9, 0, 0, -5, 0), api.Cell{X: -5}, true},
		{at(9, 9, 0, 0, -5, 0), api.Cell{X: 9, Y: 9}, true},
		{at(9, 9, 0, 0, -5, 0), api.Cell{X: 9}, false},
		{at(1, 2), api.Cell{X: 2, Y: 1}, false},
		{at(far+1, 0), api.Cell{X: far + 1}, true},
		{at(math.MinInt, math.MaxInt), api.Cell{X: math.MinInt, Y: math.MaxInt}, true},
		{row(3000), api.Cell{X: 2999}, true},
		{row(3000), api.Cell{X: 3000}, false},
	} {
		if got := cells.Has(x.l, x.c); got != x.want {
			t.Error(i, got)
		}
	}
}

func TestA2Of(t *testing.T) {
	for _, l := range small() {
		if got, e := cells.Of(l); e != api.OK || !slices.Equal(got, model(in(l))) {
			t.Error(l, got, e)
		}
	}
	long := append(row(2001), api.Cell{Y: far + 1})
	twice := append(row(2000), row(2000)...)
	falling := row(2000)
	slices.Reverse(falling)
	for i, x := range []struct {
		l, want []api.Cell
		e       api.Errno
	}{
		{nil, nil, api.OK},
		{at(1, 0, 0, 1, 1, 0), at(1, 0, 0, 1), api.OK}, // the chapter's example
		{at(7, -1, -7, 1, 3, 0, 7, -1), at(7, -1, 3, 0, -7, 1), api.OK},
		{at(far, far, -far, far, far, -far, -far, -far), at(-far, -far, far, -far, -far, far, far, far), api.OK},
		{at(0, 0, far+1, 0), nil, api.ErrBounds},
		{at(-far-1, 0, 0, 0), nil, api.ErrBounds},
		{at(0, 0, 0, far+1, 0, 0), nil, api.ErrBounds},
		{at(0, -far-1), nil, api.ErrBounds},
		{at(math.MaxInt, 0), nil, api.ErrBounds},
		{at(math.MinInt, 0), nil, api.ErrBounds},
		{at(0, math.MaxInt), nil, api.ErrBounds},
		{at(0, math.MinInt), nil, api.ErrBounds},
		{falling, row(2000), api.OK},
		{twice, row(2000), api.OK}, // only unlike ones are told
		{row(2001), nil, api.ErrLong},
		{append(twice, api.Cell{Y: 1}), nil, api.ErrLong},
		{long, nil, api.ErrBounds}, // of both errors the first one
	} {
		if got, e := cells.Of(x.l); e != x.e || !slices.Equal(got, x.want) {
			t.Error(i, len(got), e)
		}
	}
}

func TestA2With(t *testing.T) {
	for _, l := range small() {
		for _, c := range model(func(api.Cell) bool { return true }) {
			for _, alive := range []bool{false, true} {
				got, e := cells.With(l, c, alive)
				if !slices.Equal(l, model(in(l))) {
					if e != api.ErrArg || len(got) != 0 {
						t.Error(l, c, alive, got, e)
					}
					continue
				}
				want := model(func(d api.Cell) bool { return d == c && alive || d != c && in(l)(d) })
				if e != api.OK || !slices.Equal(got, want) {
					t.Error(l, c, alive, got, e)
				}
			}
		}
	}
}

func TestA2WithEdges(t *testing.T) {
	full := row(2000)
	for i, x := range []struct {
		l     []api.Cell
		c     api.Cell
		alive bool
		want  []api.Cell
		e     api.Errno
	}{
		{at(0, 0), api.Cell{X: far, Y: far}, true, at(0, 0, far, far), api.OK},
		{at(0, 0), api.Cell{X: -far, Y: -far}, true, at(-far, -far, 0, 0), api.OK},
		{at(0, 0), api.Cell{X: far + 1}, true, nil, api.ErrBounds},
		{at(0, 0), api.Cell{X: -far - 1}, true, nil, api.ErrBounds},
		{at(0, 0), api.Cell{Y: far + 1}, true, nil, api.ErrBounds},
		{at(0, 0), api.Cell{Y: -far - 1}, true, nil, api.ErrBounds},
		{at(0, 0), api.Cell{X: math.MinInt, Y: math.MaxInt}, true, nil, api.ErrBounds},
		{at(0, 0), api.Cell{X: far + 1}, false, nil, api.ErrBounds}, // not alive, but out all the same
		{full, api.Cell{X: 1999}, true, full, api.OK},
		{full, api.Cell{X: 2000}, true, nil, api.ErrLong},
		{full, api.Cell{X: 2000}, false, full, api.OK},
		{full, api.Cell{X: 1999}, false, full[:1999], api.OK},
		{full[:1999], api.Cell{X: 1999}, true, full, api.OK},
		{full, api.Cell{Y: far + 1}, true, nil, api.ErrBounds}, // of both errors the first one
	} {
		if got, e := cells.With(x.l, x.c, x.alive); e != x.e || !slices.Equal(got, x.want) {
			t.Error(i, len(got), e)
		}
	}
	for i, l := range notSets() {
		for _, c := range at(0, 0, far+1, 0) {
			for _, alive := range []bool{false, true} {
				if got, e := cells.With(l, c, alive); e != api.ErrArg || len(got) != 0 {
					t.Error("no set", i, c, alive, e)
				}
			}
		}
	}
}

func TestA3(t *testing.T) {
	l := at(1, 0, 0, 1)
	for i, x := range []struct {
		l      []api.Cell
		dx, dy int
		want   []api.Cell
		e      api.Errno
	}{
		{l, 0, 0, l, api.OK},
		{l, 2, -3, at(3, -3, 2, -2), api.OK},
		{l, -5, 0, at(-4, 0, -5, 1), api.OK},
		{l, far - 1, 0, at(far, 0, far-1, 1), api.OK},
		{l, far, 0, nil, api.ErrBounds},
		{l, -far, 0, at(1-far, 0, -far, 1), api.OK},
		{l, -far - 1, 0, nil, api.ErrBounds}, // the last cell alone is out
		{l, 0, far - 1, at(1, far-1, 0, far), api.OK},
		{l, 0, far, nil, api.ErrBounds},
		{l, 0, -far, at(1, -far, 0, 1-far), api.OK},
		{l, 0, -far - 1, nil, api.ErrBounds},
		{at(-far, far), 2 * far, -2 * far, at(far, -far), api.OK},
		{at(-far, far), 2*far + 1, 0, nil, api.ErrBounds},
		{at(-far, far), 0, -2*far - 1, nil, api.ErrBounds},
		{at(far, far), math.MaxInt, 0, nil, api.ErrBounds}, // the sum goes round
		{at(far, far), 0, math.MaxInt, nil, api.ErrBounds},
		{at(-far, -far), math.MinInt, 0, nil, api.ErrBounds},
		{at(-far, -far), 0, math.MinInt, nil, api.ErrBounds},
		{at(0, 0), math.MinInt, math.MinInt, nil, api.ErrBounds},
		{nil, math.MaxInt, math.MinInt, nil, api.OK}, // no cell is out
		{row(2000), 0, 0, row(2000), api.OK},
	} {
		if got, e := cells.Shift(x.l, x.dx, x.dy); e != x.e || !slices.Equal(got, x.want) {
			t.Error(i, len(got), e)
		}
	}
	for i, l := range notSets() {
		for _, d := range []int{0, 1, math.MaxInt} {
			if got, e := cells.Shift(l, d, d); e != api.ErrArg || len(got) != 0 {
				t.Error("no set", i, d, e)
			}
		}
	}
}

func TestA4(t *testing.T) {
	for i, x := range []struct {
		l    []api.Cell
		want api.Box
		is   bool
	}{
		{nil, api.Box{}, false},
		{at(), api.Box{}, false},
		{at(1, 0, 0, 1), api.Box{W: 2, H: 2}, true}, // the chapter's example
		{at(0, 0), api.Box{W: 1, H: 1}, true},
		{at(5, -7), api.Box{X: 5, Y: -7, W: 1, H: 1}, true},
		{at(3, 0, -2, 1, 0, 4), api.Box{X: -2, W: 6, H: 5}, true},
		{at(-9, -3, -4, -3, -6, -1), api.Box{X: -9, Y: -3, W: 6, H: 3}, true},
		{at(4, 2, 9, 3, 6, 8), api.Box{X: 4, Y: 2, W: 6, H: 7}, true},
		{at(-far, -far, far, far), api.Box{X: -far, Y: -far, W: 2*far + 1, H: 2*far + 1}, true},
		{at(far, -far, -far, far), api.Box{X: -far, Y: -far, W: 2*far + 1, H: 2*far + 1}, true},
		{row(2000), api.Box{W: 2000, H: 1}, true},
	} {
		if got, is := cells.Box(x.l); got != x.want || is != x.is {
			t.Error(i, got, is)
		}
	}
	for i, l := range notSets() {
		if got, is := cells.Box(l); got != (api.Box{}) || is {
			t.Error("no set", i, got, is)
		}
	}
}

func TestA5(t *testing.T) {
	for _, l := range small() {
		set, e := cells.Of(l)
		if e != api.OK || !cells.Right(set) {
			t.Error(l, set, e)
		}
		// A set is told by which cells it has.
		turned := slices.Clone(l)
		slices.Reverse(turned)
		if other, _ := cells.Of(append(turned, l...)); !slices.Equal(other, set) {
			t.Error(l, other)
		}
		if again, _ := cells.Of(set); !slices.Equal(again, set) {
			t.Error(l, again)
		}
		var one []api.Cell
		for _, c := range l {
			one, _ = cells.With(one, c, true)
			if !cells.Right(one) {
				t.Error(l, one)
			}
		}
		if !slices.Equal(one, set) {
			t.Error(l, one)
		}
		there, e := cells.Shift(set, 1-far, far-1)
		back, f := cells.Shift(there, far-1, 1-far)
		if e != api.OK || f != api.OK || !cells.Right(there) || !slices.Equal(back, set) {
			t.Error(l, there, back, e, f)
		}
	}
}

// TestR3 goes by lists that have spare room: neither they nor what stands behind them may be written into, and what comes out shares nothing with them.
func TestR3(t *testing.T) {
	behind := api.Cell{X: 77, Y: 77}
	for i, call := range []func(l []api.Cell) []api.Cell{
		func(l []api.Cell) []api.Cell { out, _ := cells.Of(l); return out },
		func(l []api.Cell) []api.Cell { out, _ := cells.With(l, api.Cell{X: 1}, true); return out },
		func(l []api.Cell) []api.Cell { out, _ := cells.With(l, api.Cell{X: 5}, true); return out },
		func(l []api.Cell) []api.Cell { out, _ := cells.With(l, api.Cell{X: 1}, false); return out },
		func(l []api.Cell) []api.Cell { out, _ := cells.With(l, api.Cell{X: 5}, false); return out },
		func(l []api.Cell) []api.Cell { out, _ := cells.Shift(l, 1, 1); return out },
		func(l []api.Cell) []api.Cell { out, _ := cells.Shift(l, 0, 0); return out },
		func(l []api.Cell) []api.Cell { cells.Right(l); cells.Has(l, behind); cells.Box(l); return nil },
	} {
		whole := append(at(1, 0, 9, 0, 0, 1), behind, behind)
		was := slices.Clone(whole)
		out := call(whole[:3])
		if !slices.Equal(whole, was) {
			t.Error(i, "written into", whole)
		}
		again := call(whole[:3])
		for k := range out {
			out[k] = behind
		}
		_ = append(out, behind)
		if third := call(whole[:3]); !slices.Equal(whole, was) || !slices.Equal(again, third) {
			t.Error(i, "shared", whole, again, third)
		}
	}
	falls := at(1, 0, 0, 0, 1, 0)
	if _, e := cells.Of(falls); e != api.OK || !slices.Equal(falls, at(1, 0, 0, 0, 1, 0)) {
		t.Error("written into", falls)
	}
}
