package free_test

import (
	"math"
	"math/big"
	"slices"
	"testing"

	"gosper/api"
	"gosper/free"
)

const (
	base  = 1 << 20
	most  = 1<<60 - 1
	words = 100000
	steps = 100000
	nodes = 1000
	crowd = 64
)

// round is a sum of products that goes round where it goes round: each term is a list of factors.
func round(terms ...[]int) int {
	sum := new(big.Int)
	for _, factors := range terms {
		p := big.NewInt(1)
		for _, x := range factors {
			p.Mul(p, big.NewInt(int64(x)))
		}
		sum.Add(sum, p)
	}
	sum.And(sum, new(big.Int).SetUint64(math.MaxUint64))
	return int(sum.Uint64())
}

// sum is a sum that goes round.
func sum(l ...int) int {
	var terms [][]int
	for _, x := range l {
		terms = append(terms, []int{x})
	}
	return round(terms...)
}

// partsModel are c and h of a number.
func partsModel(n int) (c, h int) {
	if n < 0 {
		return 0, 0
	}
	q, r := new(big.Int).DivMod(big.NewInt(int64(n)), big.NewInt(base), new(big.Int))
	return int(q.Int64()), int(r.Int64())
}

// may tells whether a number may be written.
func may(n int) bool { return big.NewInt(int64(n)).CmpAbs(big.NewInt(most)) <= 0 }

// accessModel is one access, by chapter 10's words: the words then, what was there, and whether it was done.
func accessModel(m []int, kind string, at, old, n int) ([]int, int, bool, api.Errno) {
	switch {
	case len(m) > words:
		return m, 0, false, api.ErrArg
	case at < 0 || at >= len(m), kind != "load" && !may(n):
		return m, 0, false, api.ErrBounds
	case kind == "load":
		return m, m[at], true, api.OK
	case kind == "swap" && m[at] != old:
		return m, m[at], false, api.OK
	}
	return slices.Concat(m[:at], []int{n}, m[at+1:]), m[at], true, api.OK
}

// stepModel is what Step should answer: the chapter's table line by line, with sums of any size that go round.
func stepModel(m []int, at int, w api.Worker) ([]int, api.Worker, api.Errno) {
	pop, push := w.Job == api.JobPop, w.Job == api.JobPush
	if w.Done || !pop && !push || w.PC < 0 || w.PC > 2 || at < 0 {
		return m, w, api.ErrArg
	}
	r := w.Regs
	c, h := partsModel(r[1])
	kind, place, old, n := "load", at, 0, 0
	switch {
	case pop && w.PC == 1:
		place = sum(at, h)
	case pop && w.PC == 2:
		kind, old, n = "swap", r[1], round([]int{sum(c, 1), base}, []int{r[2]})
	case push && w.PC == 1:
		kind, place, n = "write", sum(at, 1, r[0]), h
	case push && w.PC == 2:
		kind, old, n = "swap", r[1], round([]int{sum(c, 1), base}, []int{r[0]}, []int{1})
	}
	out, x, done, e := accessModel(m, kind, place, old, n)
	if e != api.OK {
		return m, w, e
	}
	then := w
	switch w.PC {
	case 0:
		then.Regs[1], then.PC = x, 1
		if _, first := partsModel(x); pop && first == 0 {
			then.PC, then.Done, then.Out = 0, true, -1
		}
	case 1:
		then.PC = 2
		if pop {
			then.Regs[2] = x
		}
	case 2:
		if !done {
			then.PC = 0
		} else if then.Done, then.Out = true, r[0]; pop {
			then.Out = sum(h, -1)
		}
	}
	return out, then, api.OK
}

// nextModel is chapter 11's Next, of workers that are not done: of these, in order, the one that a pick tells, else the first one behind the last.
func nextModel(picks []int, step int, l []api.Worker, last int) int {
	var left []int
	for i, w := range l {
		if !w.Done {
			left = append(left, i)
		}
	}
	if len(left) == 0 {
		return -1
	}
	if step < len(picks) {
		p := big.NewInt(int64(picks[step]))
		if p.Sign() < 0 {
			p.Neg(p.Add(p, big.NewInt(1)))
		}
		return left[p.Mod(p, big.NewInt(int64(len(left)))).Int64()]
	}
	for _, i := range left {
		if i > last {
			return i
		}
	}
	return left[0]
}

// runModel is what Run should answer, and how many steps were made.
func runModel(m []int, at int, picks []int, l []api.Worker) ([]int, []api.Worker, api.Errno, int) {
	if len(l) > crowd {
		return m, l, api.ErrArg, 0
	}
	out, then := m, slices.Clone(l)
	for n, last := 0, -1; ; n++ {
		if last = nextModel(picks, n, then, last); last < 0 {
			return out, then, api.OK, n
		}
		if n == steps {
			return m, l, api.ErrLong, n
		}
		var e api.Errno
		if out, then[last], e = stepModel(out, at, then[last]); e != api.OK {
			return m, l, e, n
		}
	}
}

// freeModel is what Free should answer: node by node, each as long as it has a word.
func freeModel(m []int, at int) []int {
	var out []int
	if at < 0 || at >= len(m) {
		return out
	}
	_, head := partsModel(m[at])
	behind := m[at+1:]
	for n := sum(head, -1); n >= 0 && n < len(behind) && len(out) < nodes; n = sum(behind[n], -1) {
		out = append(out, n)
	}
	return out
}

// pop is a worker that takes a node, at a place in this, with r1 and so on.
func pop(pc int, r ...int) api.Worker {
	w := api.Worker{Job: api.JobPop, PC: pc}
	copy(w.Regs[1:], r)
	return w
}

// push is a worker that gives a node back, at a place in this, with r0 and so on.
func push(pc int, r ...int) api.Worker {
	w := api.Worker{Job: api.JobPush, PC: pc}
	copy(w.Regs[:], r)
	return w
}

// done is a worker that is done.
func done(w api.Worker, out int) api.Worker {
	w.Done, w.Out = true, out
	return w
}

// crew are so many workers that take.
func crew(n int) []api.Worker { return slices.Repeat([]api.Worker{free.Pop()}, n) }

// outs is what came out of workers, in order.
func outs(l []api.Worker) []int {
	var out []int
	for _, w := range l {
		out = append(out, w.Out)
	}
	return out
}

// short is the beginning of a list, for a test's remark.
func short[T any](l []T) []T { return l[:min(len(l), 9)] }

// with are words one of which is another one.
func with(m []int, at, n int) []int { return slices.Concat(m[:at], []int{n}, m[at+1:]) }

// held holds what Step answers against what it should be, and that the words that were handed in are as they were.
func held(t *testing.T, m []int, at int, w api.Worker, want []int, then api.Worker, f api.Errno) {
	t.Helper()
	was := slices.Clone(m)
	got, x, e := free.Step(m, at, w)
	if !slices.Equal(got, want) || x != then || e != f {
		t.Fatalf("%v at %d of %d %v: %d %v %v %d, not %d %v %v %d", w, at, len(was), short(was), len(got), short(got), x, e, len(want), short(want), then, f)
	}
	if !slices.Equal(m, was) {
		t.Fatalf("%v at %d of %v: written into: %v", w, at, short(was), short(m))
	}
}

// refused holds that Step answers an error, and all as it was.
func refused(t *testing.T, m []int, at int, w api.Worker, f api.Errno) {
	t.Helper()
	held(t, m, at, w, slices.Clone(m), w, f)
}

// asked holds Step against the model, and tells the error.
func asked(t *testing.T, m []int, at int, w api.Worker) api.Errno {
	t.Helper()
	want, then, f := stepModel(slices.Clone(m), at, w)
	held(t, m, at, w, want, then, f)
	return f
}

// runHeld holds what Run answers against what it should be, and that what was handed in is as it was.
func runHeld(t *testing.T, m []int, at int, picks []int, l []api.Worker, want []int, then []api.Worker, f api.Errno) {
	t.Helper()
	was, ps, ws := slices.Clone(m), slices.Clone(picks), slices.Clone(l)
	got, x, e := free.Run(m, at, picks, l...)
	if !slices.Equal(got, want) || !slices.Equal(x, then) || e != f {
		t.Fatalf("%v at %d of %v by %v: %v %v %d, not %v %v %d", short(ws), at, short(was), short(ps), short(got), short(x), e, short(want), short(then), f)
	}
	if !slices.Equal(m, was) || !slices.Equal(picks, ps) || !slices.Equal(l, ws) {
		t.Fatalf("%v at %d of %v by %v: written into: %v %v %v", short(ws), at, short(was), short(ps), short(l), short(m), short(picks))
	}
}

// runRefused holds that Run answers an error, and all as it was.
func runRefused(t *testing.T, m []int, at int, picks []int, l []api.Worker, f api.Errno) {
	t.Helper()
	runHeld(t, m, at, picks, l, slices.Clone(m), slices.Clone(l), f)
}

// runAsked holds Run against the model, and tells the error, and how many steps were made.
func runAsked(t *testing.T, m []int, at int, picks []int, l ...api.Worker) (api.Errno, int) {
	t.Helper()
	want, then, f, n := runModel(slices.Clone(m), at, picks, slices.Clone(l))
	runHeld(t, m, at, picks, l, want, then, f)
	return f, n
}

// freeHeld holds what Free answers against what it should be, and that the words that were handed in are as they were.
func freeHeld(t *testing.T, m []int, at int, want ...int) {
	t.Helper()
	was := slices.Clone(m)
	if got := free.Free(m, at); !slices.Equal(got, want) {
		t.Fatalf("free at %d of %d %v: %d %v, not %d %v", at, len(was), short(was), len(got), short(got), len(want), short(want))
	}
	if !slices.Equal(m, was) {
		t.Fatalf("free at %d of %v: written into: %v", at, short(was), short(m))
	}
}

// edges are numbers about those at which something changes, and some others.
func edges() []int {
	out := []int{math.MinInt, math.MinInt + 1, math.MaxInt - 1, math.MaxInt, 1 << 32, -1 << 32, most - base, -most + base, math.MaxInt - base, math.MaxInt - base + 1}
	for _, n := range []int{0, base, 2 * base, 5 * base, most, 1 << 61} {
		for d := -2; d <= 3; d++ {
			out = append(out, n+d, -n+d)
		}
	}
	slices.Sort(out)
	return slices.Compact(out)
}

// chance gives numbers below others, always the same ones.
func chance() func(int) int {
	x := 1
	return func(below int) int {
		x = x*6364136223846793005 + 1442695040888963407
		return int(uint(x) >> 33 % uint(below))
	}
}

// lists gives all lists of so many of the numbers from 0 to below another one.
func lists(n, below int) [][]int {
	if n == 0 {
		return [][]int{nil}
	}
	var out [][]int
	for _, l := range lists(n-1, below) {
		for x := range below {
			out = append(out, append(slices.Clone(l), x))
		}
	}
	return out
}

// TestExample goes by all picks that three workers may have.
func TestExample(t *testing.T) {
	if m := free.Make(2); !slices.Equal(m, []int{1, 2, 0}) {
		t.Error(m)
	}
	for _, picks := range lists(10, 3) {
		_, l, e := free.Run(free.Make(2), 0, picks, free.Pop(), free.Pop(), free.Pop())
		got := outs(l)
		slices.Sort(got)
		if !slices.Equal(got, []int{-1, 0, 1}) || e != api.OK {
			t.Fatal(picks, l, e)
		}
	}
}

func TestNumbers(t *testing.T) {
	if api.FreeBase != base || api.MaxFree != nodes || api.MaxWorkers != crowd || api.MaxSteps != steps || api.MaxWords != words || api.MaxWord != most || api.JobPop != 1 || api.JobPush != 2 {
		t.Error("these tests go by other numbers")
	}
}

// TestL1Make goes by all counts of nodes that there may be, and by others.
func TestL1Make(t *testing.T) {
	want := []int{0}
	for n := 0; n <= nodes; n++ {
		if m := free.Make(n); !slices.Equal(m, want) {
			t.Fatalf("of %d nodes: %d %v, not %v", n, len(m), short(m), short(want))
		}
		all := make([]int, n)
		for i := range all {
			all[i] = i
		}
		freeHeld(t, want, 0, all...)
		want = append(want, 0)
		want[n] = n + 1
	}
	for _, n := range []int{nodes + 1, nodes + 2, base, 1 << 32, 1<<32 + 3, math.MaxInt, -1, -2, -nodes, -1 << 32, math.MinInt} {
		if m := free.Make(n); len(m) > 0 {
			t.Fatal(n, len(m), short(m))
		}
	}
}

// TestL1Free goes by free lists that are as they should be, and by others.
func TestL1Free(t *testing.T) {
	for _, x := range []struct {
		m    []int
		at   int
		want []int
	}{
		{nil, 0, nil}, {[]int{}, 0, nil}, {[]int{0}, 0, nil}, {[]int{1}, 0, nil}, {[]int{5 * base}, 0, nil},
		{[]int{1, 0}, 0, []int{0}}, {[]int{2, 0, 0}, 0, []int{1}}, {[]int{3, 0, 1, 2}, 0, []int{2, 1, 0}}, {[]int{2, 3, 1, 0}, 0, []int{1, 0, 2}},
		// How often the head was changed says nothing of what is free.
		{[]int{7*base + 2, 3, 1, 0}, 0, []int{1, 0, 2}}, {[]int{math.MaxInt - base + 3, 3, 1, 0}, 0, []int{1, 0, 2}}, {[]int{math.MaxInt, 0, 0}, 0, nil}, {[]int{7 * base, 3, 1, 0}, 0, nil},
		// Of a number below 0 nothing is left.
		{[]int{-1, 0, 0}, 0, nil}, {[]int{-7, 1, 1}, 0, nil}, {[]int{-base + 1, 0}, 0, nil}, {[]int{1 - 2*base, 0}, 0, nil}, {[]int{math.MinInt + 1, 0}, 0, nil},
		// What is ahead of the head is no node's.
		{[]int{9, 8, 2, 3, 1, 0}, 2, []int{1, 0, 2}}, {[]int{0, 0, base, 0}, 2, nil}, {[]int{4, 4, 1}, 2, nil}, {[]int{4, 4, 1, 0}, 2, []int{0}}, {[]int{5, 5, 5}, 3, nil},
		// A node that has no word is not told, nor what would be behind it.
		{[]int{4, 0, 0, 0}, 0, nil}, {[]int{3, 0, 0, 0}, 0, []int{2}}, {[]int{1, 3, 0}, 0, []int{0}}, {[]int{1, 2, 0}, 0, []int{0, 1}}, {[]int{9, 9, 1, 2, 3}, 2, []int{0, 1}},
		{[]int{1, -1, 0}, 0, []int{0}}, {[]int{7, 7, 1, -1, 0}, 2, []int{0}}, {[]int{1, 1, 1, -2, 0}, 2, []int{0}}, {[]int{1, 2, math.MinInt}, 0, []int{0, 1}}, {[]int{1, 2, math.MaxInt}, 0, []int{0, 1}}, {[]int{5, 1, 2, math.MaxInt}, 1, []int{0, 1}}, {[]int{1, 2, math.MinInt + 1}, 0, []int{0, 1}},
		{[]int{1, 2, base + 1}, 0, []int{0, 1}}, {[]int{1, 2, 1 << 32}, 0, []int{0, 1}}, {[]int{1, 2, 1<<32 + 1}, 0, []int{0, 1}},
	} {
		freeHeld(t, x.m, x.at, x.want...)
	}
	// What stands behind the length has no word.
	freeHeld(t, []int{1, 2, 3, 0}[:2], 0, 0)
	freeHeld(t, []int{1, 2, 3, 0}[:1], 0)
	for _, m := range [][]int{nil, {1, 0}, {1, 2, 0}, free.Make(9)} {
		for _, at := range []int{math.MinInt, -1 << 32, -2, -1, len(m), len(m) + 1, words, 1 << 32, math.MaxInt} {
			freeHeld(t, m, at)
		}
	}
}

// TestL1Many goes by rings, and by lists of more nodes than are told.
func TestL1Many(t *testing.T) {
	ring := func(l ...int) []int {
		return slices.Repeat(l, nodes)[:nodes]
	}
	freeHeld(t, []int{1, 1}, 0, ring(0)...)
	freeHeld(t, []int{8, 2, 2, 1}, 1, ring(1, 0)...)
	freeHeld(t, []int{1, 2, 3, 2}, 0, append([]int{0}, ring(1, 2)[:nodes-1]...)...)
	freeHeld(t, []int{3, 2, 3, 1}, 0, ring(2, 0, 1)...)
	for n := nodes - 2; n < nodes+3; n++ {
		var all []int
		m := []int{1}
		for i := range n {
			m, all = append(m, i+2), append(all, i)
		}
		freeHeld(t, m, 0, all[:min(n, nodes)]...) // the last one tells a node that has no word
		m[n] = 0
		freeHeld(t, m, 0, all[:min(n, nodes)]...)
	}
	// Only of the head something is split off; and there may be more words than can be worked at.
	m := make([]int, base+9)
	m[0], m[5], m[base+3], m[base-1] = 7*base+5, base+3, base-1, 3
	freeHeld(t, m, 0, 4, base+2, base-2, 2)
	m = make([]int, words+9)
	m[0], m[words+8], m[7] = words+8, 7, 0
	freeHeld(t, m, 0, words+7, 6)
}

// TestL1Model goes by words that chance takes.
func TestL1Model(t *testing.T) {
	next, long := chance(), 0
	for range 50000 {
		m := make([]int, next(8))
		for i := range m {
			m[i] = next(9) - 1
		}
		at := next(10) - 1
		if at >= 0 && at < len(m) {
			m[at] += (next(4) - 1) * base
		}
		want := freeModel(m, at)
		freeHeld(t, m, at, want...)
		if len(want) > 2 {
			long++
		}
	}
	if long < 500 {
		t.Error("seldom met: more than two nodes", long)
	}
}

func TestL2(t *testing.T) {
	if w := free.Pop(); w != (api.Worker{Job: 1}) {
		t.Error(w)
	}
	for _, n := range edges() {
		if w := free.Push(n); w != (api.Worker{Job: 2, Regs: [8]int{n}}) {
			t.Error(n, w)
		}
	}
}

// TestL3Steps goes by each line of the table, at a list's beginning, and behind other words.
func TestL3Steps(t *testing.T) {
	head := 6*base + 2
	for _, ahead := range [][]int{nil, {77}, {0, 0, 0, 0, 0, 0}} {
		at := len(ahead)
		of := func(l ...int) []int { return slices.Concat(ahead, l) }
		m := of(head, 3, 1, 0, 8)
		for _, x := range []struct {
			w    api.Worker
			m    []int
			then api.Worker
		}{
			{pop(0), m, pop(1, head)},
			{pop(0, 4, 5), m, pop(1, head, 5)},
			{pop(1, head), m, pop(2, head, 1)},
			{pop(1, 3, 9), m, pop(2, 3, 0)},
			{pop(1, 9*base+4), m, pop(2, 9*base+4, 8)},
			{pop(1, 9*base), m, pop(2, 9*base, head)}, // of h 0 the head itself is read
			{pop(1, -3), m, pop(2, -3, head)},
			{pop(2, head, 1), of(7*base+1, 3, 1, 0, 8), done(pop(2, head, 1), 1)},
			{pop(2, head, 0), of(7*base, 3, 1, 0, 8), done(pop(2, head, 0), 1)},
			{pop(2, head, -4), of(7*base-4, 3, 1, 0, 8), done(pop(2, head, -4), 1)},
			{pop(2, head+1, 1), m, pop(0, head+1, 1)},
			{pop(2, head-base, 1), m, pop(0, head-base, 1)}, // the same node, but of another change
			{pop(2, 2, 1), m, pop(0, 2, 1)},
			{push(0, 3), m, push(1, 3, head)},
			{push(0, 3, 5, 6), m, push(1, 3, head, 6)},
			{push(0, -30), m, push(1, -30, head)},
			{push(1, 3, head), of(head, 3, 1, 0, 2), push(2, 3, head)},
			{push(1, 0, 9*base), of(head, 0, 1, 0, 8), push(2, 0, 9*base)},
			{push(1, 2, -5), of(head, 3, 1, 0, 8), push(2, 2, -5)},
			{push(1, -1, head), of(2, 3, 1, 0, 8), push(2, -1, head)}, // 1 more than that is the head's own place
			{push(2, 3, head), of(7*base+4, 3, 1, 0, 8), done(push(2, 3, head), 3)},
			{push(2, 0, head), of(7*base+1, 3, 1, 0, 8), done(push(2, 0, head), 0)},
			{push(2, -1, head), of(7*base, 3, 1, 0, 8), done(push(2, -1, head), -1)},
			{push(2, 9000, head), of(7*base+9001, 3, 1, 0, 8), done(push(2, 9000, head), 9000)},
			{push(2, 3, head-base), m, push(0, 3, head-base)},
			{push(2, 3, 2), m, push(0, 3, 2)},
		} {
			held(t, m, at, x.w, x.m, x.then, api.OK)
			// What the table doesn't name stays.
			w, then := x.w, x.then
			w.Out, w.Regs[7], w.Regs[3] = 55, 8, -9
			then.Regs[7], then.Regs[3] = 8, -9
			if !then.Done {
				then.Out = 55
			}
			held(t, m, at, w, x.m, then, api.OK)
		}
	}
}

// TestL3None goes by heads of which nothing is free, and by others.
func TestL3None(t *testing.T) {
	for _, x := range []int{0, base, 5 * base, math.MaxInt - base + 1, -1, -7, -base, 1 - base, -base - 1, math.MinInt, math.MinInt + 1} {
		held(t, []int{x, 3}, 0, pop(0), []int{x, 3}, done(pop(0, x), -1), api.OK)
		held(t, []int{x, 3}, 0, push(0, 4), []int{x, 3}, push(1, 4, x), api.OK)
	}
	for _, x := range []int{1, 2, base - 1, base + 1, 2*base - 1, math.MaxInt} {
		held(t, []int{x, 3}, 0, pop(0), []int{x, 3}, pop(1, x), api.OK)
		held(t, []int{x, 3}, 0, push(0, 4), []int{x, 3}, push(1, 4, x), api.OK)
	}
	// One that swaps from a head of which nothing is free takes none.
	held(t, []int{5 * base}, 0, pop(2, 5*base, 7), []int{6*base + 7}, done(pop(2, 5*base, 7), -1), api.OK)
	held(t, []int{-5}, 0, pop(2, -5, 7), []int{base + 7}, done(pop(2, -5, 7), -1), api.OK)
	held(t, []int{-5}, 0, push(2, 6, -5), []int{base + 7}, done(push(2, 6, -5), 6), api.OK)
}

// TestL3Arg goes by workers and places that may not be: that is told ahead of what an access would tell.
func TestL3Arg(t *testing.T) {
	for _, m := range [][]int{nil, {}, {0}, {1, 2, 0}} {
		for _, at := range []int{math.MinInt, -1 << 32, -2, -1, 0, 1, 3, words, math.MaxInt} {
			for _, job := range []int{math.MinInt, -2, -1, 0, 1, 2, 3, 4, 5, 6, 7, 8, 1<<32 + 1, 1<<32 + 2, math.MaxInt} {
				for _, pc := range []int{math.MinInt, -1 << 32, -2, -1, 0, 1, 2, 3, 4, 10, 1 << 32, 1<<32 + 1, math.MaxInt} {
					known := (job == 1 || job == 2) && pc >= 0 && pc <= 2
					w := api.Worker{Job: job, PC: pc, Regs: [8]int{0, 1, 2}, Out: 3}
					if !known || at < 0 {
						refused(t, m, at, w, api.ErrArg)
					}
					refused(t, m, at, done(w, 4), api.ErrArg)
				}
			}
		}
	}
}

// TestL3Bounds goes by accesses to words that are not there, and of what may not be written.
func TestL3Bounds(t *testing.T) {
	m := []int{9, base + 2, 3, 1, 0}
	for _, at := range []int{5, 6, words, 1 << 32, math.MaxInt - 1, math.MaxInt} {
		for pc := range 3 {
			refused(t, m, at, pop(pc, 0, 0), api.ErrBounds)
			refused(t, m, at, pop(pc, 1, 0), api.ErrBounds)
			refused(t, m, at, push(pc, 0, 0), api.ErrBounds)
		}
	}
	for _, r1 := range []int{4, 5, 9, base - 1, base + 4, 3*base + 4, math.MaxInt} {
		refused(t, m, 1, pop(1, r1), api.ErrBounds)
	}
	for _, r0 := range []int{3, 4, 9, base, 1 << 32, math.MaxInt - 2, math.MaxInt - 1, math.MaxInt, -3, -4, -9, math.MinInt, math.MinInt + 1} {
		refused(t, m, 1, push(1, r0, 2), api.ErrBounds)
	}
	// Of a place beyond all words, and a node far below 0, the sum may be a place all the same.
	held(t, m, 1, push(1, -2, 2), []int{2, base + 2, 3, 1, 0}, push(2, -2, 2), api.OK)
	held(t, m, math.MaxInt, push(1, math.MinInt+3, 2), []int{9, base + 2, 3, 2, 0}, push(2, math.MinInt+3, 2), api.OK)
	refused(t, m, math.MaxInt, push(1, math.MinInt+5, 2), api.ErrBounds)
	refused(t, m, math.MaxInt-1, push(1, math.MinInt, 2), api.ErrBounds)
	// What stands behind the words' length is no word.
	wide := []int{1, 2, 0}
	refused(t, wide[:1], 0, pop(1, 1), api.ErrBounds)
	refused(t, wide[:1], 0, push(1, 0, 1), api.ErrBounds)
	refused(t, wide[:1], 1, pop(0), api.ErrBounds)
	if !slices.Equal(wide, []int{1, 2, 0}) {
		t.Error("written into behind its length", wide)
	}
}

// TestL3Words goes by how many words there may be.
func TestL3Words(t *testing.T) {
	m := make([]int, words+1)
	m[0], m[words-1] = base+1, 5
	for pc := range 3 {
		for _, at := range []int{-1, 0, 1, words, words + 1, math.MaxInt} {
			refused(t, m, at, pop(pc, base+1), api.ErrArg)
			refused(t, m, at, push(pc, 3, base+1), api.ErrArg)
			runRefused(t, m, at, nil, []api.Worker{pop(pc, base+1)}, api.ErrArg)
		}
	}
	m = m[:words]
	held(t, m, 0, pop(1, words-1), m, pop(2, words-1, 5), api.OK)
	held(t, m, words-1, pop(0), m, pop(1, 5), api.OK)
	held(t, m, 0, push(1, words-2, 4*base+3), with(m, words-1, 3), push(2, words-2, 4*base+3), api.OK)
	held(t, m, words-1, pop(2, 5, 7), with(m, words-1, base+7), done(pop(2, 5, 7), 4), api.OK)
	refused(t, m, 0, push(1, words-1, 3), api.ErrBounds)
	refused(t, m, 0, pop(1, words), api.ErrBounds)
}

// TestL3Round goes by heads at the edges of what may be written, and by sums that go round.
func TestL3Round(t *testing.T) {
	for _, x := range []struct{ head, first, want int }{
		{most - base, 1 << 19, 1<<60 - base + 1<<19}, {most - base, base - 1, most}, {most, -1, most}, {most, -2*most - 1, -most}, {0, most - base, most}, {0, -most - base, -most}, {-1, -most - base, -most},
		{math.MaxInt, math.MinInt, 0}, {math.MaxInt, math.MinInt + 5, 5}, {math.MaxInt, math.MinInt + most, most}, {math.MaxInt, math.MaxInt, -1}, {math.MaxInt - 3, 1 - most + math.MaxInt, -most},
		{math.MaxInt - base, math.MaxInt, -base - 1}, {math.MaxInt - base, math.MaxInt - 7, -base - 8}, {math.MaxInt - 9*base, math.MaxInt, -9*base - 1}, {math.MinInt, 3, base + 3},
	} {
		_, h := partsModel(x.head)
		held(t, []int{8, x.head}, 1, pop(2, x.head, x.first), []int{8, x.want}, done(pop(2, x.head, x.first), h-1), api.OK)
		held(t, []int{8, 7}, 1, pop(2, x.head, x.first), []int{8, 7}, pop(0, x.head, x.first), api.OK)
		node := sum(x.first, -1)
		held(t, []int{8, x.head}, 1, push(2, node, x.head), []int{8, x.want}, done(push(2, node, x.head), node), api.OK)
		held(t, []int{8, 7}, 1, push(2, node, x.head), []int{8, 7}, push(0, node, x.head), api.OK)
	}
	// What may not be written is told even where the head was changed meanwhile.
	for _, x := range []struct{ head, first int }{
		{most, 0}, {most, 1}, {most, -2*most - 2}, {most - base, base}, {0, most - base + 1}, {0, -most - base - 1}, {0, math.MaxInt}, {-1, math.MinInt}, {math.MaxInt, 0}, {math.MaxInt, -1}, {math.MaxInt, math.MinInt + most + 1},
		{math.MaxInt, math.MaxInt - most}, {math.MaxInt - base, 0}, {math.MaxInt - base, base - 1}, {math.MaxInt - base, base}, {math.MaxInt - base, math.MaxInt - most},
	} {
		for _, there := range []int{x.head, 7} {
			refused(t, []int{8, there}, 1, pop(2, x.head, x.first), api.ErrBounds)
			refused(t, []int{8, there}, 1, push(2, sum(x.first, -1), x.head), api.ErrBounds)
		}
	}
}

// TestL3Model goes by all numbers of the edges.
func TestL3Model(t *testing.T) {
	seen := map[api.Errno]int{}
	for _, a := range edges() {
		for _, b := range edges() {
			for _, m := range [][]int{{a, b, 3, 0}, {b, a}, {5, a}} {
				for pc := range 3 {
					for at := range 3 {
						seen[asked(t, m, at, pop(pc, a, b))]++
						seen[asked(t, m, at, push(pc, b, a))]++
					}
				}
			}
		}
	}
	for _, e := range []api.Errno{api.OK, api.ErrBounds} {
		if seen[e] < 3000 {
			t.Error("seldom met", e, seen[e])
		}
	}
}

// TestL3Chance goes by words and workers that chance takes.
func TestL3Chance(t *testing.T) {
	next, seen, swapped := chance(), map[api.Errno]int{}, 0
	number := func() int { return (next(5)-1)*base + next(6) }
	for range 100000 {
		m := make([]int, next(7))
		for i := range m {
			m[i] = number()
		}
		w := api.Worker{PC: next(5) - 1, Job: next(4), Out: next(9), Done: next(20) == 0}
		for i := range w.Regs {
			w.Regs[i] = next(7) - 1
		}
		at := next(6) - 1
		if w.Regs[1] = number(); at >= 0 && at < len(m) && next(2) == 0 {
			w.Regs[1] = m[at]
		}
		seen[asked(t, m, at, w)]++
		if _, then, e := free.Step(m, at, w); e == api.OK && w.PC == 2 && then.Done {
			swapped++
		}
	}
	for _, e := range []api.Errno{api.OK, api.ErrArg, api.ErrBounds} {
		if seen[e] < 3000 {
			t.Error("seldom met", e, seen[e])
		}
	}
	if swapped < 1000 {
		t.Error("seldom met: a head that is swapped", swapped)
	}
}

// TestL3Heads holds what heads tell, and the access that changes one, as other packages go by them.
func TestL3Heads(t *testing.T) {
	for _, head := range edges() {
		c, h := partsModel(head)
		if changes, first := free.Split(head); changes != c || first != h {
			t.Error(head, changes, first)
		}
		for _, first := range edges() {
			want := api.Access{Kind: api.Swap, At: 7, Old: head, New: round([]int{sum(c, 1), base}, []int{first})}
			if a := free.Swap(7, head, first); a != want {
				t.Error(head, first, a)
			}
		}
	}
}

// TestL4 goes by workers of whom picks tell who is next.
func TestL4(t *testing.T) {
	for _, x := range []struct {
		m, picks []int
		l        []api.Worker
		want     []int
		outs     []int
	}{
		{[]int{4, 9}, nil, nil, []int{4, 9}, nil},
		{free.Make(0), nil, crew(1), []int{0}, []int{-1}},
		{free.Make(1), nil, crew(1), []int{base, 0}, []int{0}},
		// By turns, all see the head that the first one changes; of those that begin anew the first one is the quicker one.
		{free.Make(3), nil, crew(3), []int{3 * base, 2, 3, 0}, []int{0, 1, 2}},
		{free.Make(2), nil, crew(3), []int{2 * base, 2, 0}, []int{0, 1, -1}},
		// The second one is quicker, then the third one.
		{free.Make(3), []int{0, 0, 1, 1, 1, 1, 1, 1}, crew(3), []int{3 * base, 2, 3, 0}, []int{2, 0, 1}},
		{free.Make(3), []int{-1, -1, -2, -2, -2, -2, -2, -2}, crew(3), []int{3 * base, 2, 3, 0}, []int{2, 0, 1}},
		{free.Make(3), []int{6, 3, 7, -5, 4, math.MaxInt - 1, 5, 1}, crew(3), []int{3 * base, 2, 3, 0}, []int{2, 0, 1}},
		// One that gives back ahead of one that takes, and behind it.
		{[]int{0, 0}, []int{1, 1, 1}, []api.Worker{free.Pop(), free.Push(0)}, []int{2 * base, 0}, []int{0, 0}},
		{[]int{0, 0}, nil, []api.Worker{free.Pop(), free.Push(0)}, []int{base + 1, 0}, []int{-1, 0}},
		{[]int{5 * base, 0, 0, 0}, []int{1, 1, 2, 2, 0, 0, 0}, []api.Worker{free.Push(0), free.Push(1), free.Push(2)}, []int{8*base + 3, 0, 1, 2}, []int{0, 1, 2}},
	} {
		var then []api.Worker
		_, l, _ := free.Run(x.m, 0, x.picks, x.l...)
		for i := range x.l {
			then = append(then, l[i])
			if !l[i].Done || l[i].Job != x.l[i].Job {
				t.Error(x.m, x.picks, l)
			}
		}
		if !slices.Equal(outs(l), x.outs) {
			t.Error(x.m, x.picks, outs(l), "not", x.outs)
		}
		runHeld(t, x.m, 0, x.picks, x.l, x.want, then, api.OK)
		runAsked(t, x.m, 0, x.picks, x.l...)
	}
}

// TestL4Crowd goes by how many workers there may be.
func TestL4Crowd(t *testing.T) {
	for _, n := range []int{63, 64} {
		m, l, e := free.Run(free.Make(n+1), 0, nil, crew(n)...)
		if e != api.OK || m[0] != n*base+n+1 {
			t.Error(n, m[0], e)
		}
		all := outs(l)
		slices.Sort(all)
		for i, x := range all {
			if x != i {
				t.Error(n, all)
			}
		}
		runAsked(t, free.Make(n/2), 0, []int{5, -9, 63, 64, 1 << 40}, crew(n)...)
	}
	for _, n := range []int{65, 66, 128, 1000} {
		for _, at := range []int{-1, 0, 900} {
			runRefused(t, free.Make(n), at, nil, crew(n), api.ErrArg)
			runRefused(t, free.Make(n), at, []int{3}, make([]api.Worker, n), api.ErrArg)
			runRefused(t, free.Make(n), at, nil, slices.Repeat([]api.Worker{done(pop(0), 3)}, n), api.ErrArg)
		}
	}
}

// TestL4Done holds that those that are done have no turn, and are as they were, whatever they are.
func TestL4Done(t *testing.T) {
	a, b, c := done(pop(0), 7), done(api.Worker{Job: 99, PC: -4, Regs: [8]int{1, 2, 3}}, -8), done(push(2, 5, 1), 0)
	for _, at := range []int{math.MinInt, -1, 0, 1, 3, math.MaxInt} {
		for _, m := range [][]int{nil, {1, 2, 0}, make([]int, words+1)} {
			for _, picks := range [][]int{nil, {0, 1, 2, -3}} {
				runHeld(t, m, at, picks, []api.Worker{a, b, c}, m, []api.Worker{a, b, c}, api.OK)
				runHeld(t, m, at, picks, nil, m, nil, api.OK)
			}
		}
	}
	// Of the others a pick tells one by its place among these.
	l := []api.Worker{a, free.Pop(), b, free.Pop(), c}
	_, then, e := free.Run(free.Make(2), 0, []int{1, 1, 1}, l...)
	if e != api.OK || !slices.Equal(outs(then), []int{7, 1, -8, 0, 0}) || then[0] != a || then[2] != b || then[4] != c {
		t.Error(then, e)
	}
	for _, picks := range lists(7, 3) {
		runAsked(t, free.Make(2), 0, picks, l...)
	}
}

// TestL4First holds that of the first step -1 is last, and then the one that made a step.
func TestL4First(t *testing.T) {
	for _, picks := range [][]int{nil, {0}, {1}, {2}, {1, 2}, {2, 1}, {2, 2, 2}, {0, 2, 1, 2}, {1, 1, 1}} {
		for n := range 5 {
			runAsked(t, free.Make(n), 0, picks, free.Pop(), free.Pop(), free.Pop())
			runAsked(t, free.Make(n), 0, picks, free.Pop(), free.Push(n-1), free.Pop())
		}
	}
	// The first one finds a node, and would find none behind the second one.
	_, l, e := free.Run([]int{1, 0}, 0, nil, pop(2, 1, 0), free.Pop())
	if e != api.OK || !slices.Equal(outs(l), []int{0, -1}) {
		t.Error(l, e)
	}
}

// TestL4Errors goes by errors, of which the first one ends all.
func TestL4Errors(t *testing.T) {
	m := free.Make(3)
	wrong, out := api.Worker{Job: 3}, push(1, 77)
	for _, x := range []struct {
		at    int
		picks []int
		l     []api.Worker
		e     api.Errno
	}{
		{0, nil, []api.Worker{wrong}, api.ErrArg}, {0, nil, []api.Worker{out}, api.ErrBounds}, {0, nil, []api.Worker{wrong, out}, api.ErrArg}, {0, nil, []api.Worker{out, wrong}, api.ErrBounds}, {0, []int{1}, []api.Worker{wrong, out}, api.ErrBounds},
		{0, []int{1}, []api.Worker{out, wrong}, api.ErrArg}, {0, nil, []api.Worker{free.Pop(), free.Pop(), out}, api.ErrBounds}, {0, []int{0, 0, 0, 0, 0, 0}, []api.Worker{free.Pop(), free.Pop(), wrong}, api.ErrArg},
		{-1, nil, crew(2), api.ErrArg}, {math.MinInt, nil, crew(64), api.ErrArg}, {4, nil, crew(2), api.ErrBounds}, {math.MaxInt, nil, crew(2), api.ErrBounds}, {0, nil, []api.Worker{free.Push(3)}, api.ErrBounds}, {0, nil, []api.Worker{free.Pop(), pop(3), free.Pop()}, api.ErrArg},
		{0, nil, []api.Worker{free.Pop(), done(wrong, 1), pop(-1)}, api.ErrArg}, {0, []int{1}, []api.Worker{wrong, done(out, 1), out}, api.ErrBounds},
	} {
		runRefused(t, m, x.at, x.picks, x.l, x.e)
	}
	runRefused(t, nil, 0, nil, crew(1), api.ErrBounds)
	runRefused(t, []int{1}, 0, nil, crew(1), api.ErrBounds)
	// The head may be changed so often that it can't be written.
	runHeld(t, []int{most - base - 1, 0}, 0, nil, []api.Worker{free.Push(0)}, []int{1<<60 - base + 1, base - 2}, []api.Worker{done(push(2, 0, most-base-1), 0)}, api.OK)
	runRefused(t, []int{most - base + 1, 0}, 0, nil, []api.Worker{free.Push(0)}, api.ErrBounds)
}

// restless are workers, and picks of any number. By these two of the workers find at once that none is free, and none of the other three is done while the picks last: each of them writes to the head, since its node is -1, what undoes another one's swap.
func restless(n int) ([]api.Worker, []int) {
	round := slices.Repeat([]int{2, 2, 1, 0, 0, 2, 1, 1, 0, 2, 2, 1, 0, 0, 2, 1, 1, 0}, n/18+1)
	return []api.Worker{push(1, -1, 0), push(1, -1, 5), push(2, -1, 5), free.Pop(), free.Pop()}, append([]int{0, 3, 3}, round...)[:n]
}

// TestL4Long goes by workers that are done with the last step that there may be, and by others that are not.
func TestL4Long(t *testing.T) {
	m := []int{5, 3}
	last := map[api.Errno]int{} // how many steps were made, at most
	for n := steps - 20; n < steps+3; n++ {
		l, picks := restless(n)
		e, made := runAsked(t, m, 0, picks, l...)
		last[e] = max(last[e], made)
		if n >= steps && e != api.ErrLong {
			t.Error(n, e)
		}
	}
	if last[api.OK] != steps || last[api.ErrLong] != steps {
		t.Error("not met", last)
	}
	// What would be an error behind the last step is none.
	for n := steps - 3; n < steps+3; n++ {
		l, picks := restless(n)
		want := api.ErrBounds
		if n >= steps {
			want = api.ErrLong
		}
		// Behind the picks the worker behind the last one is next; of 20 more steps each has one.
		e, _ := runAsked(t, m, 0, append(picks, 3), append(l, push(1, 77))...)
		if e != want {
			t.Error(n, e, want)
		}
	}
	// So many steps are made in no more time where there are many words.
	l, picks := restless(steps)
	runRefused(t, with(make([]int, words), 0, 5), 0, picks, l, api.ErrLong)
}

// TestL4Chance goes by words, workers and picks that chance takes.
func TestL4Chance(t *testing.T) {
	next, seen, most := chance(), map[api.Errno]int{}, 0
	for range 30000 {
		n := next(6)
		at := next(3)
		m := append(make([]int, at), free.Make(n)...)
		m[at] += next(9) * base
		var l []api.Worker
		for range next(7) {
			switch next(5) {
			case 0:
				l = append(l, free.Push(next(n+1)))
			case 1:
				l = append(l, pop(next(3), m[at], next(4)))
			default:
				l = append(l, free.Pop())
			}
		}
		if len(l) > 0 && next(9) == 0 {
			l[next(len(l))] = api.Worker{Job: next(4), PC: next(4), Done: next(2) == 0, Out: 6, Regs: [8]int{next(9) - 2, next(9) - 2, next(9)}}
		}
		picks := make([]int, next(30))
		for i := range picks {
			picks[i] = next(40) - 20
		}
		e, made := runAsked(t, m, at, picks, l...)
		seen[e]++
		most = max(most, made)
	}
	for _, e := range []api.Errno{api.OK, api.ErrArg, api.ErrBounds} {
		if seen[e] < 300 {
			t.Error("seldom met", e, seen[e])
		}
	}
	if most < 25 {
		t.Error("seldom met: many steps", most)
	}
}

// TestL4Together goes by steps of another kind, as other packages have them: each counts one down.
func TestL4Together(t *testing.T) {
	var by []int
	down := func(w api.Worker) (api.Worker, api.Errno) {
		by = append(by, w.Job)
		w.PC--
		w.Done = w.PC == 0
		if w.PC < 0 {
			return w, api.ErrFull
		}
		return w, api.OK
	}
	l := []api.Worker{{Job: 5, PC: 2}, done(api.Worker{Job: 6, PC: 9}, 4), {Job: 7, PC: 1}, {Job: 8, PC: 3}}
	want := []api.Worker{done(api.Worker{Job: 5}, 0), l[1], done(api.Worker{Job: 7}, 0), done(api.Worker{Job: 8}, 0)}
	for _, x := range []struct{ picks, by []int }{{nil, []int{5, 7, 8, 5, 8, 8}}, {[]int{2, 0}, []int{8, 5, 7, 8, 5, 8}}, {[]int{-1, 1, 1, 3}, []int{5, 7, 8, 8, 5, 8}}} {
		by = nil
		was := slices.Clone(l)
		if then, e := free.Together(x.picks, l, down); !slices.Equal(then, want) || e != api.OK || !slices.Equal(by, x.by) || !slices.Equal(l, was) {
			t.Error(x, then, e, by, l)
		}
	}
	for _, x := range []struct {
		l []api.Worker
		e api.Errno
	}{{make([]api.Worker, crowd), api.ErrFull}, {make([]api.Worker, crowd+1), api.ErrArg}, {[]api.Worker{{PC: steps}}, api.OK}, {[]api.Worker{{PC: steps}, {PC: 1}}, api.ErrLong}} {
		if then, e := free.Together(nil, x.l, down); e != x.e || e != api.OK && len(then) > 0 {
			t.Error(len(x.l), len(then), e)
		}
	}
}

// actor is one that takes and gives back nodes, one behind the other.
type actor struct {
	plan string // what is still to be done: t takes a node, g gives back the one that was taken first of those that it has
	has  []int
	w    api.Worker
	busy bool
}

// state is where all are: the words, and the actors.
type state struct {
	m   []int
	all []actor
}

// key is a state as a text, by which it is known again.
func (s state) key() string {
	var out []byte
	put := func(l ...int) {
		for _, x := range l {
			for b := range 8 {
				out = append(out, byte(x>>(8*b)))
			}
		}
	}
	put(s.m...)
	for _, a := range s.all {
		out = append(append(out, a.plan...), '.')
		put(len(a.has), a.w.PC, a.w.Job)
		put(a.has...)
		put(a.w.Regs[:]...)
		if a.busy {
			out = append(out, '!')
		}
	}
	return string(out)
}

// begun has an actor begin with what is next in its plan; one that has none to give back passes that over.
func (a actor) begun() actor {
	for !a.busy && a.plan != "" {
		what := a.plan[0]
		a.plan = a.plan[1:]
		if what == 't' {
			a.w, a.busy = free.Pop(), true
		} else if len(a.has) > 0 {
			a.w, a.busy = free.Push(a.has[0]), true
		}
	}
	return a
}

// step is a state behind a step of an actor, which is busy.
func (s state) step(t *testing.T, i int) state {
	t.Helper()
	none := len(free.Free(s.m, 0)) == 0
	out := state{all: slices.Clone(s.all)}
	a := &out.all[i]
	var e api.Errno
	if out.m, a.w, e = free.Step(s.m, 0, a.w); e != api.OK {
		t.Fatal(s, i, e)
	}
	if !a.w.Done {
		return out
	}
	a.busy = false
	switch {
	case a.w.Job == api.JobPush && a.w.Out != a.has[0]:
		t.Fatal("another node was given back", s, a.w)
	case a.w.Job == api.JobPush:
		a.has = slices.Clone(a.has[1:])
	case a.w.Out >= 0:
		a.has = append(slices.Clone(a.has), a.w.Out)
	case !none:
		t.Fatal("none was found, and one was free", s, i)
	}
	*a = a.begun()
	return out
}

// whole holds that each node is free, or had by one, once.
func (s state) whole(t *testing.T) {
	t.Helper()
	all := free.Free(s.m, 0)
	for _, a := range s.all {
		all = append(all, a.has...)
	}
	slices.Sort(all)
	for i, n := range all {
		if i != n {
			t.Fatal("not each node once", all, s)
		}
	}
	if len(all) != len(s.m)-1 {
		t.Fatal("not all nodes", all, s)
	}
}

// everyWay goes from a state to all that may follow, by any picks, and tells how many there are.
func everyWay(t *testing.T, s state, seen map[string]bool) int {
	t.Helper()
	k := s.key()
	if seen[k] {
		return 0
	}
	if seen[k] = true; len(seen) > 1<<17 {
		t.Fatal("no end", s)
	}
	s.whole(t)
	n := 1
	for i, a := range s.all {
		if a.busy {
			n += everyWay(t, s.step(t, i), seen)
		}
	}
	return n
}

// TestL5 goes by all picks that there may be of some actors.
func TestL5(t *testing.T) {
	for _, x := range []struct {
		nodes int
		plans []string
		had   int // how many nodes the last actor has from the beginning on
	}{
		{0, []string{"t", "t"}, 0}, {1, []string{"t", "t", "t"}, 0}, {2, []string{"t", "t", "t"}, 0}, {3, []string{"t", "t", "t"}, 0}, {2, []string{"tg", "tg"}, 0}, {1, []string{"tg", "tg", "t"}, 0},
		// The first one reads the head, and meanwhile the second one takes two, and gives the first one of them back, so that the head tells the same node.
		{2, []string{"t", "ttg"}, 0}, {3, []string{"t", "ttgt"}, 0}, {3, []string{"tt", "ttg"}, 0}, {2, []string{"tgtg", "tgtg"}, 0}, {3, []string{"ttgg", "ttgg"}, 0}, {2, []string{"t", "t", "ttg"}, 0},
		{2, []string{"t", "g", "gg"}, 2}, {1, []string{"t", "t", "g"}, 1}, {3, []string{"tg", "t", "gg"}, 2}, {3, []string{"tg", "tgt", "gt"}, 1}, {4, []string{"t", "t", "t", "g"}, 2}, {2, []string{"tg", "tg", "tg"}, 0},
	} {
		s := state{m: free.Make(x.nodes)}
		for i, plan := range x.plans {
			a := actor{plan: plan}
			if i == len(x.plans)-1 {
				for n := range x.had {
					a.has = append(a.has, x.nodes-1-n)
				}
			}
			s.all = append(s.all, a.begun())
		}
		if x.had > 0 {
			s.m = append(free.Make(x.nodes-x.had), make([]int, x.had)...)
		}
		if n := everyWay(t, s, map[string]bool{}); n < 4 {
			t.Error("few states", x, n)
		}
	}
}

// TestL5Run goes by picks that chance takes, of workers of whom some take, and some give back.
func TestL5Run(t *testing.T) {
	next, none := chance(), 0
	for range 5000 {
		n, given := next(20), next(20)
		m := append(free.Make(n), make([]int, given)...)
		var l []api.Worker
		for range next(24) {
			l = append(l, free.Pop())
		}
		for i := range given {
			l = slices.Insert(l, next(len(l)+1), free.Push(n+i))
		}
		picks := make([]int, next(200))
		for i := range picks {
			picks[i] = next(200) - 100
		}
		then, w, e := free.Run(m, 0, picks, l...)
		all := free.Free(then, 0)
		for _, x := range w {
			if x.Job == api.JobPop && x.Out >= 0 {
				all = append(all, x.Out)
			}
			if x.Out < 0 {
				none++
			}
		}
		slices.Sort(all)
		if e != api.OK || len(all) != n+given || len(slices.Compact(all)) != n+given {
			t.Fatal(n, given, picks, w, all, e)
		}
		if pops := len(l) - given; pops <= n && slices.Contains(outs(w), -1) {
			t.Fatal("none was found, and there were enough", n, picks, w)
		}
	}
	if none < 1000 {
		t.Error("seldom met: one that finds none", none)
	}
}

// spoil writes into a list, and into its spare room.
func spoil[T any](l []T, x T) {
	l = l[:cap(l)]
	for i := range l {
		l[i] = x
	}
}

// TestR3 writes into all that comes out, and looks whether what is handed in, and what else came out, stays as it was.
func TestR3(t *testing.T) {
	bad := api.Worker{Job: -9, PC: -9}
	for n := range 40 {
		room := append(free.Make(n), 8, 9, 9)
		m, was := room[:n+1], slices.Clone(room)
		for _, w := range []api.Worker{free.Pop(), pop(1, 0), pop(2, 1, 0), pop(2, 9, 0), free.Push(0), push(1, n-1, 0), push(2, 0, 1), push(2, 0, 9)} {
			first, _, e := free.Step(m, 0, w)
			second, _, _ := free.Step(m, 0, w)
			keep := slices.Clone(second)
			spoil(first, -99)
			if e != api.OK || !slices.Equal(room, was) || !slices.Equal(second, keep) {
				t.Error("shared", n, w, room, second, e)
			}
		}
		first, second := free.Free(m, 0), free.Free(m, 0)
		keep := slices.Clone(second)
		spoil(first, -99)
		if !slices.Equal(room, was) || !slices.Equal(second, keep) {
			t.Error("shared by Free", n, room, second)
		}
		first, second = free.Make(n), free.Make(n)
		spoil(first, -99)
		if !slices.Equal(second, was[:n+1]) || !slices.Equal(free.Make(n), was[:n+1]) {
			t.Error("shared by Make", n, second)
		}
		for size := range 5 {
			wide := append(crew(size), bad, bad)
			ps := []int{3, 1, 4, 1, 5}
			for _, l := range [][]api.Worker{wide[:size], nil, {done(pop(0), 1)}} {
				given := slices.Clone(l)
				first, w, _ := free.Run(m, 0, ps[:3], l...)
				second, v, _ := free.Run(m, 0, ps[:3], l...)
				keep, others := slices.Clone(second), slices.Clone(v)
				spoil(first, -99)
				spoil(w, bad)
				if !slices.Equal(room, was) || !slices.Equal(l, given) || !slices.Equal(second, keep) || !slices.Equal(v, others) || !slices.Equal(ps, []int{3, 1, 4, 1, 5}) {
					t.Error("shared by Run", n, room, l, second, v)
				}
			}
			if wide[size] != bad || wide[size+1] != bad {
				t.Error("written into behind its length", wide)
			}
		}
	}
}
