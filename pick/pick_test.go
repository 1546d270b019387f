package pick_test

import (
	"math"
	"math/big"
	"slices"
	"testing"

	"gosper/api"
	"gosper/pick"
)

const steps = 100000

// nextModel is what Next should answer: the chapter's words one by one, with numbers of any size.
func nextModel(picks []int, step int, left []int, last int) int {
	var those []int
	for i, n := range left {
		if n > 0 {
			those = append(those, i)
		}
	}
	if len(those) == 0 {
		return -1
	}
	if step >= 0 && step < len(picks) {
		p := big.NewInt(int64(picks[step]))
		if p.Sign() < 0 {
			p.Neg(p.Add(p, big.NewInt(1)))
		}
		return those[p.Mod(p, big.NewInt(int64(len(those)))).Int64()]
	}
	behind := max(min(last, len(left)-1), -1) + 1
	for _, i := range append(places(behind, len(left)), places(0, behind)...) {
		if left[i] > 0 {
			return i
		}
	}
	return -99
}

// turnsModel is what Turns should answer: who is next, one behind the other.
func turnsModel(picks, left []int) []int {
	left = slices.Clone(left)
	var out []int
	for last := -1; len(out) < steps; {
		if last = nextModel(picks, len(out), left, last); last < 0 {
			break
		}
		left[last]--
		out = append(out, last)
	}
	return out
}

// places are numbers, one behind the other, from one on to below another one.
func places(from, to int) []int {
	var out []int
	for i := from; i < to; i++ {
		out = append(out, i)
	}
	return out
}

// same are so many numbers that are the same.
func same(n, x int) []int { return slices.Repeat([]int{x}, n) }

// short is the beginning of a list, for a test's remark.
func short(l []int) []int { return l[:min(len(l), 12)] }

// held holds what Next answers against what it should be, and that what was handed in is as it was.
func held(t *testing.T, picks []int, step int, left []int, last, want int) {
	t.Helper()
	ps, ls := slices.Clone(picks), slices.Clone(left)
	if got := pick.Next(picks, step, left, last); got != want {
		t.Errorf("of the picks %v, the step %d, %v left and the last one %d: %d, not %d", short(ps), step, short(ls), last, got, want)
	}
	if !slices.Equal(picks, ps) || !slices.Equal(left, ls) {
		t.Errorf("of %v and %v: written into: %v %v", short(ps), short(ls), short(picks), short(left))
	}
}

// asked holds Next against the model.
func asked(t *testing.T, picks []int, step int, left []int, last int) {
	t.Helper()
	held(t, picks, step, left, last, nextModel(picks, step, left, last))
}

// turnsHeld holds what Turns answers against what it should be, and that what was handed in is as it was.
func turnsHeld(t *testing.T, picks, left, want []int) {
	t.Helper()
	ps, ls := slices.Clone(picks), slices.Clone(left)
	if got := pick.Turns(picks, left...); !slices.Equal(got, want) {
		at := 0
		for at < min(len(got), len(want)) && got[at] == want[at] {
			at++
		}
		t.Errorf("of the picks %v and %v left: %d turns, from %d on %v, not %d and %v", short(ps), short(ls), len(got), at, short(got[at:]), len(want), short(want[at:]))
	}
	if !slices.Equal(picks, ps) || !slices.Equal(left, ls) {
		t.Errorf("of %v and %v: written into: %v %v", short(ps), short(ls), short(picks), short(left))
	}
}

// turnsAsked holds Turns against the model.
func turnsAsked(t *testing.T, picks []int, left ...int) {
	t.Helper()
	turnsHeld(t, picks, left, turnsModel(picks, left))
}

// lists gives all lists of so many of the numbers.
func lists(n int, of ...int) [][]int {
	if n == 0 {
		return [][]int{nil}
	}
	var out [][]int
	for _, l := range lists(n-1, of...) {
		for _, x := range of {
			out = append(out, append(slices.Clone(l), x))
		}
	}
	return out
}

// edges are numbers about those at which something might change.
func edges() []int {
	var out []int
	for _, n := range []int{0, 1 << 20, 1 << 31, 1 << 32, 1 << 40, 1 << 60, 1 << 62, math.MinInt} {
		for d := -9; d <= 9; d++ {
			out = append(out, n+d, -n+d)
		}
	}
	slices.Sort(out)
	return slices.Compact(out)
}

// chance gives numbers below others, always the same ones.
func chance() func(int) int {
	x := 1
	return func(below int) int {
		x = x*6364136223846793005 + 1442695040888963407
		return int(uint(x) >> 33 % uint(below))
	}
}

func TestExample(t *testing.T) {
	turnsHeld(t, []int{1, 1}, []int{2, 2}, []int{1, 1, 0, 0})
}

func TestSteps(t *testing.T) {
	if api.MaxSteps != steps {
		t.Error("these tests go by another number")
	}
}

// TestK1None holds that no worker is next where none is left, whatever else is asked.
func TestK1None(t *testing.T) {
	for _, left := range [][]int{nil, {}, {0}, {-1}, {math.MinInt}, {0, 0}, {0, -3}, {math.MinInt, 0, -1}, same(1000, 0), same(1000, -1)} {
		for _, picks := range [][]int{nil, {}, {0}, {5}, {-1}, {math.MinInt}, {math.MaxInt, 3}} {
			for _, step := range []int{math.MinInt, -1, 0, 1, 2, math.MaxInt} {
				for _, last := range []int{math.MinInt, -2, -1, 0, 1, 999, 1000, math.MaxInt} {
					held(t, picks, step, left, last, -1)
				}
			}
		}
	}
	// What stands behind the length is no worker.
	held(t, []int{0}, 0, []int{0, 1}[:1], 0, -1)
	held(t, nil, 0, []int{0, 1}[:1], 0, -1)
}

// TestK1Picks goes by picks, of which each tells one of those that are left.
func TestK1Picks(t *testing.T) {
	left := []int{0, 4, -2, 1, 0, math.MaxInt, math.MinInt}
	for _, x := range []struct{ p, want int }{
		{0, 1}, {1, 3}, {2, 5}, {3, 1}, {4, 3}, {5, 5}, {6, 1}, {-1, 1}, {-2, 3}, {-3, 5}, {-4, 1}, {-5, 3}, {-6, 5}, {-7, 1},
		// 2^63 - 1 is 1 more than a number of threes, so that its pick and that of -2^63 is the second one.
		{math.MaxInt, 3}, {math.MaxInt - 1, 1}, {math.MaxInt - 2, 5}, {math.MinInt, 3}, {math.MinInt + 1, 1}, {math.MinInt + 2, 5}, {1 << 32, 3}, {-1 << 32, 1},
	} {
		for _, last := range []int{math.MinInt, -1, 0, 1, 2, 3, 4, 5, 6, 7, math.MaxInt} {
			held(t, []int{x.p}, 0, left, last, x.want)
			held(t, []int{7, x.p, 8}, 1, left, last, x.want)
			held(t, []int{7, 8, x.p}, 2, left, last, x.want)
		}
	}
	// One alone is next, whatever the pick.
	for _, p := range edges() {
		held(t, []int{p}, 0, []int{0, 0, 9, 0}, 2, 2)
	}
}

// TestK1Step goes by steps about the picks' first one and last one: of others the first one left behind last is next.
func TestK1Step(t *testing.T) {
	left := []int{1, 1, 1, 1, 1}
	for _, picks := range [][]int{nil, {}, {3}, {3, 3}, {3, 3, 3}, append([]int{3, 3}, 3, 3)[:2]} {
		for _, step := range []int{math.MinInt, -1 << 32, -3, -2, -1, 0, 1, 2, 3, 4, 1 << 32, 1<<32 + 1, math.MaxInt} {
			for last := range left {
				want := (last + 1) % 5
				if step >= 0 && step < len(picks) {
					want = 3
				}
				held(t, picks, step, left, last, want)
			}
		}
	}
	for step := range 40 {
		held(t, places(0, 40), step, same(40, 1), 7, step)
	}
}

// TestK1Last goes by who was last: left or not, below the first one, and behind them all.
func TestK1Last(t *testing.T) {
	left := []int{0, 3, 0, -1, 2, 1, 0}
	for _, x := range []struct{ last, want int }{
		{math.MinInt, 1}, {-1 << 32, 1}, {-8, 1}, {-7, 1}, {-2, 1}, {-1, 1}, {0, 1}, {1, 4}, {2, 4}, {3, 4}, {4, 5}, {5, 1}, {6, 1}, {7, 1}, {8, 1}, {9, 1}, {11, 1}, {1 << 32, 1}, {1<<32 + 1, 1}, {math.MaxInt, 1},
	} {
		held(t, nil, 0, left, x.last, x.want)
		held(t, []int{2}, -1, left, x.last, x.want)
		held(t, []int{2}, 1, left, x.last, x.want)
	}
	for last := -9; last < 9; last++ {
		// The last one itself is next, where no other one is left.
		held(t, nil, 0, []int{0, 0, 1, 0}, last, 2)
		held(t, nil, 0, []int{8}, last, 0)
		// What stands behind the length is no worker.
		held(t, nil, 0, []int{1, 0, 5, 5}[:2], last, 0)
	}
}

// TestK1Model goes by all lists of up to four workers, steps about the picks' ends, and last ones.
func TestK1Model(t *testing.T) {
	for n := range 5 {
		for _, left := range lists(n, -1, 0, 1, 2) {
			for last := -2; last < n+3; last++ {
				for step := -2; step < 4; step++ {
					asked(t, nil, step, left, last)
					for p := -7; p < 7; p++ {
						asked(t, []int{p, -p}, step, left, last)
					}
				}
			}
		}
	}
	for _, n := range edges() {
		for many := 1; many < 8; many++ {
			left := append(same(many, 1), 0, 0, 1)
			asked(t, []int{n}, 0, left, n)
			asked(t, []int{1, 2, 3}, n, left, n)
			asked(t, []int{1, 2, 3}, n, left, 1)
		}
	}
}

// TestK1Chance goes by workers, picks and last ones that chance takes.
func TestK1Chance(t *testing.T) {
	next := chance()
	for range 20000 {
		left := make([]int, next(70))
		for i := range left {
			left[i] = next(5) - 2
		}
		picks := make([]int, next(4))
		for i := range picks {
			picks[i] = (next(1<<30)<<30 + next(1<<30)) * (next(3) - 1)
		}
		asked(t, picks, next(6)-1, left, next(80)-5)
	}
}

// TestK2 goes by turns with picks and without.
func TestK2(t *testing.T) {
	for _, x := range []struct{ picks, left, want []int }{
		{nil, []int{1}, []int{0}},
		{nil, []int{3}, []int{0, 0, 0}},
		{nil, []int{1, 1, 1}, []int{0, 1, 2}},
		{nil, []int{3, 1, 2}, []int{0, 1, 2, 0, 2, 0}},
		{nil, []int{0, 2, -5, 1, math.MinInt}, []int{1, 3, 1}},
		{[]int{2}, []int{2, 2, 2}, []int{2, 0, 1, 2, 0, 1}},
		// A pick goes by those that are left then.
		{[]int{1, 1, 1, 1, 1}, []int{1, 1, 1, 1}, []int{1, 2, 3, 0}},
		{[]int{-1, -2, -3, -1}, []int{1, 2, 1, 1}, []int{0, 2, 1, 1, 3}},
		{[]int{-1, -2, -3, -4}, []int{2, 2, 2, 2}, []int{0, 1, 2, 3, 0, 1, 2, 3}},
		{[]int{0, 0, 0}, []int{0, 0, 3, 3}, []int{2, 2, 2, 3, 3, 3}},
		// Behind the picks it goes on from the one that was picked last, left or not.
		{[]int{0, 2}, []int{9, 1, 1, 2}, []int{0, 2, 3, 0, 1, 3, 0, 0, 0, 0, 0, 0, 0}},
		{[]int{1, 2}, []int{2, 1, 2, 1}, []int{1, 3, 0, 2, 0, 2}},
		// More picks than turns.
		{[]int{1, 0, 7, 7, 7, 7}, []int{1, 1}, []int{1, 0}},
		{[]int{math.MaxInt, math.MinInt, math.MaxInt}, []int{1, 1, 1, 1}, []int{3, 1, 2, 0}},
	} {
		turnsHeld(t, x.picks, x.left, x.want)
	}
}

// TestK2None holds that there is no turn where none is left, whatever the picks.
func TestK2None(t *testing.T) {
	for _, left := range [][]int{nil, {}, {0}, {-1}, {math.MinInt, 0}, same(1000, 0), same(steps+1, -1)} {
		for _, picks := range [][]int{nil, {}, {0}, {1, -1, 7}, {math.MinInt, math.MaxInt}, same(steps+1, 3)} {
			turnsHeld(t, picks, left, nil)
		}
	}
}

// TestK2Most goes by steps about as many as there may be turns.
func TestK2Most(t *testing.T) {
	for _, n := range []int{steps - 1, steps, steps + 1, 2*steps + 1, 1 << 31, 1 << 32, 1 << 62, math.MaxInt} {
		many := min(n, steps)
		turnsHeld(t, nil, []int{n}, same(many, 0))
		turnsHeld(t, same(steps+7, -3), []int{0, n}, same(many, 1))
		turnsAsked(t, nil, n, 5, 0, 7)
		turnsAsked(t, []int{2, 1, 0, -1}, 5, n, n, n)
	}
	turnsAsked(t, nil, steps/2, steps/2-1)
	turnsAsked(t, nil, steps/2, steps/2)
	turnsAsked(t, nil, steps/2, steps/2+1)
	turnsAsked(t, nil, math.MaxInt, math.MaxInt, math.MaxInt)
	// All turns are picked, and no pick behind them is.
	picks := make([]int, steps+9)
	for i := range picks {
		picks[i] = i*i - 5*i
	}
	turnsAsked(t, picks, steps, 30, steps, 0, steps, steps)
	turnsAsked(t, picks[:steps-1], steps, 30, steps, 0, steps, steps)
}

// TestK2Many goes by more workers than there may be turns, which all come to their end.
func TestK2Many(t *testing.T) {
	for _, n := range []int{steps - 1, steps, steps + 1, 1<<17 - 1, 1 << 17, 1<<17 + 1, 1 << 20} {
		one, many := same(n, 1), min(n, steps)
		turnsHeld(t, nil, one, places(0, many))
		turnsHeld(t, same(many, 0), one, places(0, many))
		turnsHeld(t, same(many, -1), one, places(0, many))
		turnsHeld(t, same(many, math.MaxInt), same(n, 0), nil)
		// The last one that is left is picked, as is told by how many are left.
		picks, want := make([]int, many), make([]int, many)
		for i := range picks {
			picks[i], want[i] = n-1-i, n-1-i
		}
		turnsHeld(t, picks, one, want)
		for i := range picks {
			picks[i] = 2*picks[i] + 1
		}
		turnsHeld(t, picks, one, want)
		for i := range picks {
			picks[i] = -n + i
		}
		turnsHeld(t, picks, one, want)
		// Of two that are far apart one is picked, and then the other one is behind it.
		left := same(n, 0)
		left[7], left[n-3] = 2, 3
		turnsHeld(t, []int{1}, left, []int{n - 3, 7, n - 3, 7, n - 3})
		turnsHeld(t, []int{0, 0}, left, []int{7, 7, n - 3, n - 3, n - 3})
	}
	// Behind a pick all others have their turns ahead of the one that was picked.
	left := same(1000, 2)
	turnsHeld(t, []int{600}, left, slices.Concat([]int{600}, places(601, 1000), places(0, 600), places(600, 1000), places(0, 600)))
}

// TestK2Sizes goes by all numbers of workers up to some, whatever the shape of what finds them.
func TestK2Sizes(t *testing.T) {
	next := chance()
	for n := range 140 {
		for _, most := range []int{1, 2, 4} {
			left := make([]int, n)
			for i := range left {
				left[i] = next(most + 1)
			}
			picks := make([]int, next(2*n+1))
			for i := range picks {
				picks[i] = next(4*n+1) - 2*n
			}
			turnsAsked(t, picks, left...)
			turnsAsked(t, nil, left...)
			turnsAsked(t, picks, same(n, most)...)
		}
	}
}

// TestK2Model goes by all lists of up to four workers, and of up to three picks.
func TestK2Model(t *testing.T) {
	for n := range 5 {
		for _, left := range lists(n, -1, 0, 1, 3) {
			for many := range 4 {
				for _, picks := range lists(many, -2, 0, 1, 3) {
					turnsAsked(t, picks, left...)
				}
			}
		}
	}
}

// TestK2Next holds that the turns are those that Next tells, step by step.
func TestK2Next(t *testing.T) {
	next := chance()
	for range 300 {
		left, picks := make([]int, 1+next(20)), make([]int, next(60))
		for i := range left {
			left[i] = next(9) - 1
		}
		for i := range picks {
			picks[i] = next(100) - 50
		}
		then, last := slices.Clone(left), -1
		turns := pick.Turns(picks, left...)
		for step, worker := range append(slices.Clone(turns), -1) {
			if last = pick.Next(picks, step, then, last); last != worker {
				t.Fatal(picks, left, turns, step, last)
			}
			if last >= 0 {
				then[last]--
			}
		}
	}
}

// TestK3Turns holds that each worker has as many turns as it has steps left, whatever the picks.
func TestK3Turns(t *testing.T) {
	next := chance()
	for range 2000 {
		left, picks := make([]int, next(65)), make([]int, next(300))
		for i := range left {
			left[i] = next(12) - 2
		}
		for i := range picks {
			picks[i] = next(1<<20) - 1<<19
		}
		had := make([]int, len(left))
		for _, worker := range pick.Turns(picks, left...) {
			had[worker]++
		}
		for i, n := range left {
			if had[i] != max(n, 0) {
				t.Fatal(picks, left, i, had[i])
			}
		}
	}
}

// TestK3Waits holds that behind the picks each worker that is left has a turn among as many as there are workers.
func TestK3Waits(t *testing.T) {
	next := chance()
	for range 2000 {
		left, picks := make([]int, 1+next(20)), make([]int, next(40))
		for i := range left {
			left[i] = next(9)
		}
		for i := range picks {
			picks[i] = next(100) - 50
		}
		turns := pick.Turns(picks, left...)
		had := make([]int, len(left))
		for step, worker := range turns {
			for i, n := range left {
				if step < len(picks) || had[i] == n {
					continue
				}
				if behind := turns[step:]; !slices.Contains(behind[:min(len(left), len(behind))], i) {
					t.Fatal(picks, left, turns, step, i)
				}
			}
			had[worker]++
		}
	}
}

// spoil writes into a list, and into its spare room.
func spoil(l []int) {
	l = l[:cap(l)]
	for i := range l {
		l[i] = -99
	}
}

// TestR3 writes into all that comes out, and looks whether what is handed in, and what else came out, stays as it was.
func TestR3(t *testing.T) {
	for size := range 40 {
		wide := same(size+3, 2)
		room := append(places(0, size), 5, 5, 5)
		left, picks := wide[:size], room[:size]
		first, second := pick.Turns(picks, left...), pick.Turns(picks, left...)
		keep := slices.Clone(second)
		spoil(first)
		if !slices.Equal(second, keep) {
			t.Error("shared", size, second)
		}
		if !slices.Equal(wide, same(size+3, 2)) || !slices.Equal(room, append(places(0, size), 5, 5, 5)) {
			t.Error("written into, or shared", size, wide, room)
		}
		// And what was spoiled changes nothing of what comes out next.
		if third := pick.Turns(picks, left...); !slices.Equal(third, keep) {
			t.Error("kept", size, third)
		}
		pick.Next(picks, 0, left, 0)
		if !slices.Equal(wide, same(size+3, 2)) || !slices.Equal(room, append(places(0, size), 5, 5, 5)) {
			t.Error("written into by Next", size, wide, room)
		}
	}
}
