package intern_test

import (
	"math"
	"math/big"
	"slices"
	"testing"

	"gosper/api"
	"gosper/free"
	"gosper/hash"
	"gosper/intern"
	"gosper/probe"
)

const (
	base  = 1 << 20
	most  = 1<<60 - 1
	steps = 100000
	slots = 4000
	nodes = 1000
	crowd = 64
)

// fitModel tells whether a table may be, and has so many words.
func fitModel(x api.Table, m []int) bool {
	return x.Slots > 0 && x.Slots < slots+1 && x.Nodes > -1 && x.Nodes < nodes+1 && len(m) == x.Slots+5*x.Nodes+1
}

// findModel is what Find should answer: along the path, slot by slot.
func findModel(x api.Table, m []int, kids [4]int) int {
	if !fitModel(x, m) {
		return -1
	}
	for _, slot := range hash.Path(kids, x.Slots) {
		if m[slot] < 1 {
			return -1
		}
		if n := m[slot] - 1; n < x.Nodes && slices.Equal(m[x.Slots+4*n:][:4], kids[:]) {
			return n
		}
	}
	return -1
}

// rightModel is what Right should answer: the chapter's conditions one by one.
func rightModel(x api.Table, m []int) bool {
	if !fitModel(x, m) {
		return false
	}
	times := make([]int, x.Nodes)
	for _, n := range free.Free(m, x.Slots+4*x.Nodes) {
		times[n]++
	}
	for _, s := range m[:x.Slots] {
		if s == 0 {
			continue
		}
		if s < 1 || s > x.Nodes || findModel(x, m, [4]int(m[x.Slots+4*(s-1):])) != s-1 {
			return false
		}
		times[s-1]++
	}
	for _, n := range times {
		if n != 1 {
			return false
		}
	}
	return true
}

// nextModel is chapter 11's Next, of workers that are not done: of these, in order, the one that a pick tells, else the first one behind the last.
func nextModel(picks []int, step int, l []api.Worker, last int) int {
	var left []int
	for i, w := range l {
		if !w.Done {
			left = append(left, i)
		}
	}
	if len(left) == 0 {
		return -1
	}
	if step < len(picks) {
		p := big.NewInt(int64(picks[step]))
		if p.Sign() < 0 {
			p.Neg(p.Add(p, big.NewInt(1)))
		}
		return left[p.Mod(p, big.NewInt(int64(len(left)))).Int64()]
	}
	for _, i := range left {
		if i > last {
			return i
		}
	}
	return left[0]
}

// runModel is what Run should answer, by chapter 14's Step, and how many steps were made.
func runModel(x api.Table, m, picks []int, l []api.Worker) ([]int, []api.Worker, api.Errno, int) {
	if len(l) > crowd {
		return m, l, api.ErrArg, 0
	}
	out, then := m, slices.Clone(l)
	for n, last := 0, -1; ; n++ {
		if last = nextModel(picks, n, then, last); last < 0 {
			return out, then, api.OK, n
		}
		if n == steps {
			return m, l, api.ErrLong, n
		}
		var e api.Errno
		if out, then[last], e = probe.Step(x, out, then[last]); e != api.OK {
			return m, l, e, n
		}
	}
}

// short is the beginning of a list, for a test's remark.
func short[T any](l []T) []T { return l[:min(len(l), 30)] }

// with are words one of which is another one.
func with(m []int, at, n int) []int { return slices.Concat(m[:at], []int{n}, m[at+1:]) }

// at is a worker at a PC, of four kids, and with r4 and so on.
func at(pc int, kids [4]int, r ...int) api.Worker {
	w := api.Worker{Job: 3, PC: pc}
	copy(w.Regs[:4], kids[:])
	copy(w.Regs[4:], r)
	return w
}

// done is a worker that is done.
func done(w api.Worker, out int) api.Worker {
	w.Done, w.Out = true, out
	return w
}

// want are workers that begin to look for the nodes of some kids.
func want(kids ...[4]int) []api.Worker {
	var out []api.Worker
	for _, k := range kids {
		out = append(out, probe.Intern(k))
	}
	return out
}

// outs is what came out of workers, in order.
func outs(l []api.Worker) []int {
	var out []int
	for _, w := range l {
		out = append(out, w.Out)
	}
	return out
}

// kidsAt are four unlike kids whose path begins at a slot; those of other numbers are others.
func kidsAt(slot, slots, number int) [4]int {
	for n := 1000 * number; ; n++ {
		if kids := [4]int{31, 32, 33, 40 + n}; hash.Slot(hash.Of(kids), 0, slots) == slot {
			return kids
		}
	}
}

// chance gives numbers below others, always the same ones.
func chance() func(int) int {
	x := 1
	return func(below int) int {
		x = x*6364136223846793005 + 1442695040888963407
		return int(uint(x) >> 33 % uint(below))
	}
}

// few are four kids of which there are few others.
func few(next func(int) int) [4]int {
	return [4]int{next(2), 0, next(2), next(3)}
}

// lists gives all lists of so many of the numbers from 0 to below another one.
func lists(n, below int) [][]int {
	if n == 0 {
		return [][]int{nil}
	}
	var out [][]int
	for _, l := range lists(n-1, below) {
		for x := range below {
			out = append(out, append(slices.Clone(l), x))
		}
	}
	return out
}

// runHeld holds what Run answers against what it should be, and that what was handed in is as it was.
func runHeld(t *testing.T, x api.Table, m, picks []int, l []api.Worker, want []int, then []api.Worker, f api.Errno) {
	t.Helper()
	was, ps, ws := slices.Clone(m), slices.Clone(picks), slices.Clone(l)
	got, v, e := intern.Run(x, m, picks, l...)
	if !slices.Equal(got, want) || !slices.Equal(v, then) || e != f {
		t.Fatalf("%v at %v of %v by %v: %v %v %d, not %v %v %d", short(ws), x, short(was), short(ps), short(got), short(v), e, short(want), short(then), f)
	}
	if !slices.Equal(m, was) || !slices.Equal(picks, ps) || !slices.Equal(l, ws) {
		t.Fatalf("%v at %v of %v by %v: written into: %v %v %v", short(ws), x, short(was), short(ps), short(l), short(m), short(picks))
	}
}

// runRefused holds that Run answers an error, and all as it was.
func runRefused(t *testing.T, x api.Table, m, picks []int, l []api.Worker, f api.Errno) {
	t.Helper()
	runHeld(t, x, m, picks, l, slices.Clone(m), slices.Clone(l), f)
}

// runAsked holds Run against the model, and tells the error, and how many steps were made.
func runAsked(t *testing.T, x api.Table, m, picks []int, l ...api.Worker) (api.Errno, int) {
	t.Helper()
	want, then, f, n := runModel(x, slices.Clone(m), picks, slices.Clone(l))
	runHeld(t, x, m, picks, l, want, then, f)
	return f, n
}

// findHeld holds what Find answers against what it should be, and that the words that were handed in are as they were.
func findHeld(t *testing.T, x api.Table, m []int, kids [4]int, want int) {
	t.Helper()
	was := slices.Clone(m)
	if n := intern.Find(x, m, kids); n != want || !slices.Equal(m, was) {
		t.Fatalf("%v at %v of %d %v: %d, not %d; then %v", kids, x, len(was), short(was), n, want, short(m))
	}
}

// rightHeld holds what Right answers against what it should be, and that the words that were handed in are as they were.
func rightHeld(t *testing.T, x api.Table, m []int, want bool) {
	t.Helper()
	was := slices.Clone(m)
	if is := intern.Right(x, m); is != want || !slices.Equal(m, was) {
		t.Fatalf("%v of %d %v: %v, not %v; then %v", x, len(was), short(was), is, want, short(m))
	}
}

// allHeld holds what the chapter says of workers that began with given words, and are done: the words then, and the workers.
func allHeld(t *testing.T, x api.Table, from, m []int, l []api.Worker) {
	t.Helper()
	rightHeld(t, x, m, true)
	known := map[[4]int]int{}
	for i, w := range l {
		k := [4]int(w.Regs[:4])
		if w.Out < 0 {
			continue
		}
		if kids, is := probe.Kids(x, m, w.Out); !is || kids != k {
			t.Fatal("other kids", x, m, l, i, kids, is)
		}
		if n, was := known[k]; was && n != w.Out {
			t.Fatal("unlike nodes", x, m, l, i)
		}
		known[k] = w.Out
		findHeld(t, x, m, k, w.Out)
	}
	var all []int
	for _, n := range known {
		all = append(all, n)
	}
	slices.Sort(all)
	if len(slices.Compact(all)) != len(known) {
		t.Fatal("the same node of unlike kids", x, m, l)
	}
	kept := probe.Nodes(x, from)
	for _, n := range kept {
		was, _ := probe.Kids(x, from, n)
		if findHeld(t, x, m, was, n); !slices.Contains(probe.Nodes(x, m), n) {
			t.Fatal("lost", x, from, m, n)
		}
	}
	room := min(len(free.Free(from, x.Slots+4*x.Nodes)), x.Slots-len(kept))
	if slices.Contains(outs(l), -1) && room >= len(l) {
		t.Fatal("one ends with nothing, and there was room", x, from, m, l)
	}
}

// TestExample goes by all picks of ten that three workers may have.
func TestExample(t *testing.T) {
	x := api.Table{Slots: 4, Nodes: 4}
	one, two := [4]int{0, 1, 0, 0}, [4]int{1, 1, 1, 1}
	for _, picks := range lists(10, 3) {
		m, l, e := intern.Run(x, probe.New(x), picks, want(one, two, one)...)
		if e != api.OK || l[0].Out < 0 || l[1].Out < 0 || l[0].Out != l[2].Out || l[0].Out == l[1].Out || len(probe.Nodes(x, m)) != 2 || !intern.Right(x, m) {
			t.Fatal(picks, m, l, e)
		}
	}
}

func TestNumbers(t *testing.T) {
	if api.FreeBase != base || api.MaxFree != nodes || api.MaxSlots != slots || api.MaxWord != most || api.JobIntern != 3 || api.MaxWorkers != crowd || api.MaxSteps != steps {
		t.Error("these tests go by other numbers")
	}
}

// TestO1 goes by workers of whom picks tell who is next.
func TestO1(t *testing.T) {
	x := api.Table{Slots: 3, Nodes: 2}
	a, b := kidsAt(1, 3, 0), kidsAt(1, 3, 1)
	none, k, c := [4]int{}, a[3], b[3]
	alone := []int{0, 1, 0, 31, 32, 33, k, 0, 0, 0, 0, base + 2, 2, 0}
	for _, y := range []struct {
		m, picks []int
		l        []api.Worker
		want     []int
		then     []api.Worker
	}{
		{probe.New(x), nil, nil, probe.New(x), nil},
		{probe.New(x), nil, want(a), alone, []api.Worker{done(at(20, a, 0, 1, 1, 4), 0)}},
		{alone, []int{5, -5}, want(a), alone, []api.Worker{done(at(1, a, 0, 0, 0, 4), 0)}},
		{alone, nil, want(b), []int{0, 1, 2, 31, 32, 33, k, 31, 32, 33, c, 2 * base, 2, 0}, []api.Worker{done(at(20, b, 1, 2, base+2, 4), 1)}},
		// By turns both take a node; the first one puts it, and the other one gives its own back.
		{probe.New(x), nil, want(a, a), []int{0, 1, 0, 31, 32, 33, k, 31, 32, 33, k, 3*base + 2, 2, 0}, []api.Worker{done(at(20, a, 0, 1, 1, 4), 0), done(at(32, a, 0, 0, 2*base, 4), 0)}},
		// The second one sees the head, then the first one takes the node; the second one comes to the slot ahead of it.
		{probe.New(x), []int{1, 1, 0, 0, 0, 0, 1, 1, 1, 1, 1, 1, 1, 1, 1, 1}, want(a, a), []int{0, 2, 0, 31, 32, 33, k, 31, 32, 33, k, 3*base + 1, 0, 0}, []api.Worker{done(at(32, a, 0, 0, 2*base, 4), 1), done(at(20, a, 0, 2, base+2, 4), 1)}},
		{probe.New(x), slices.Repeat([]int{1}, 9), want(a, b), []int{0, 1, 2, 31, 32, 33, c, 31, 32, 33, k, 2 * base, 2, 0}, []api.Worker{done(at(20, a, 1, 2, base+2, 4), 1), done(at(20, b, 0, 1, 1, 4), 0)}},
		// No slot, and no node.
		{[]int{2, 1, 2, 9, 9, 9, 9, 8, 8, 8, 8, 7*base + 1, 2, 0}, nil, want(a), []int{2, 1, 2, 9, 9, 9, 9, 8, 8, 8, 8, 7*base + 1, 2, 0}, []api.Worker{done(at(1, a, 3, 0, 1, 0), -1)}},
		{[]int{0, 0, 0, 9, 9, 9, 9, 8, 8, 8, 8, 7 * base, 2, 0}, nil, want(none), []int{0, 0, 0, 9, 9, 9, 9, 8, 8, 8, 8, 7 * base, 2, 0}, []api.Worker{done(at(10, none, 0, 0, 7*base, 0), -1)}},
		// Workers that have begun: with what they have they go on.
		{alone, []int{1, 1, 1}, []api.Worker{at(20, b, 1, 2), at(30, a, 3, 2)}, []int{0, 1, 2, 31, 32, 33, k, 0, 0, 0, 0, 2*base + 2, 2, 2}, []api.Worker{done(at(20, b, 1, 2), 1), done(at(32, a, 3, 0, base+2), 0)}},
	} {
		runHeld(t, x, y.m, y.picks, y.l, y.want, y.then, api.OK)
		runAsked(t, x, y.m, y.picks, y.l...)
	}
}

// TestO1First holds that of the first step -1 is last, and then the one that made a step.
func TestO1First(t *testing.T) {
	a, b := kidsAt(0, 3, 0), kidsAt(0, 3, 1)
	for _, picks := range [][]int{nil, {0}, {1}, {2}, {1, 2}, {2, 1}, {2, 2, 2}, {0, 2, 1, 2}, {1, 1, 1}, {-1}, {-2}, {-3, -4, 7}, {math.MinInt, math.MaxInt, 1 << 62, -1 << 62}} {
		for n := range 5 {
			x := api.Table{Slots: 3, Nodes: n}
			runAsked(t, x, probe.New(x), picks, want(a, b, a)...)
			runAsked(t, x, probe.New(x), picks, want(a, kidsAt(2, 3, 0), b, b, a)...)
		}
	}
	// There is one node: the first one comes to it ahead of the others.
	x := api.Table{Slots: 3, Nodes: 1}
	if _, l, e := intern.Run(x, probe.New(x), nil, want(a, b, kidsAt(1, 3, 0))...); e != api.OK || !slices.Equal(outs(l), []int{0, -1, -1}) {
		t.Error(l, e)
	}
}

// TestO1Crowd goes by how many workers there may be.
func TestO1Crowd(t *testing.T) {
	x := api.Table{Slots: 70, Nodes: 66}
	for _, n := range []int{63, 64} {
		var kids [][4]int
		for i := range n {
			kids = append(kids, [4]int{0, 0, 0, i})
		}
		m, l, e := intern.Run(x, probe.New(x), nil, want(kids...)...)
		if e != api.OK || len(probe.Nodes(x, m)) != n || m[70+4*66] != n*base+n+1 {
			t.Error(n, m, e)
		}
		allHeld(t, x, probe.New(x), m, l)
		runAsked(t, x, probe.New(x), []int{5, -9, 63, 64, 1 << 40}, want(kids...)...)
		m, l, e = intern.Run(x, probe.New(x), nil, slices.Repeat(want([4]int{0, 0, 0, 1}), n)...)
		if e != api.OK || slices.Min(outs(l)) != slices.Max(outs(l)) || len(probe.Nodes(x, m)) != 1 {
			t.Error(n, m, l, e)
		}
		allHeld(t, x, probe.New(x), m, l)
	}
	for _, n := range []int{65, 66, 128, 1000} {
		for _, y := range []api.Table{x, {}, {Slots: 70, Nodes: 65}} {
			runRefused(t, y, probe.New(x), nil, slices.Repeat(want([4]int{}), n), api.ErrArg)
			runRefused(t, y, probe.New(x), []int{3}, make([]api.Worker, n), api.ErrArg)
			runRefused(t, y, probe.New(x), nil, slices.Repeat([]api.Worker{done(at(0, [4]int{}), 3)}, n), api.ErrArg)
		}
	}
}

// TestO1Done holds that those that are done have no turn, and are as they were, whatever they are, and whatever the table is.
func TestO1Done(t *testing.T) {
	x := api.Table{Slots: 3, Nodes: 2}
	a, b, c := done(at(0, [4]int{}), 7), done(api.Worker{Job: 99, PC: -4, Regs: [8]int{1, 2, 3, 4, -5}}, -8), done(at(20, [4]int{1, 2, 3, 4}, 9, 9, 9, 9), 0)
	for _, y := range []api.Table{x, {}, {Slots: -1}, {Slots: 3, Nodes: 1}, {Slots: math.MaxInt, Nodes: math.MinInt}} {
		for _, m := range [][]int{nil, {1, 2, 0}, probe.New(x), make([]int, 100009)} {
			for _, picks := range [][]int{nil, {0, 1, 2, -3}} {
				runHeld(t, y, m, picks, []api.Worker{a, b, c}, m, []api.Worker{a, b, c}, api.OK)
				runHeld(t, y, m, picks, nil, m, nil, api.OK)
			}
		}
	}
	// Of the others a pick tells one by its place among these.
	k, l := kidsAt(0, 3, 0), []api.Worker{a, probe.Intern(kidsAt(0, 3, 1)), b, probe.Intern(kidsAt(0, 3, 0)), c}
	_, then, e := intern.Run(x, probe.New(x), slices.Repeat([]int{1}, 9), l...)
	if e != api.OK || !slices.Equal(outs(then), []int{7, 1, -8, 0, 0}) || then[0] != a || then[2] != b || then[4] != c || then[3] != done(at(20, k, 0, 1, 1, 4), 0) {
		t.Error(then, e)
	}
	for _, picks := range lists(7, 3) {
		runAsked(t, x, probe.New(x), picks, l...)
	}
}

// TestO1Errors goes by errors, of which the first one ends all.
func TestO1Errors(t *testing.T) {
	x := api.Table{Slots: 3, Nodes: 2}
	m, k := probe.New(x), kidsAt(1, 3, 0)
	well, wrong, out, wide := probe.Intern(k), api.Worker{Job: 1}, at(1, k, 0, 0, 2), probe.Intern([4]int{31, most + 1, 33, 0})
	for _, y := range []struct {
		picks []int
		l     []api.Worker
		e     api.Errno
	}{
		{nil, []api.Worker{wrong}, api.ErrArg}, {nil, []api.Worker{out}, api.ErrBounds}, {nil, []api.Worker{wide}, api.ErrBounds}, {nil, []api.Worker{wrong, out}, api.ErrArg}, {nil, []api.Worker{out, wrong}, api.ErrBounds},
		{[]int{1}, []api.Worker{wrong, out}, api.ErrBounds}, {[]int{1}, []api.Worker{out, wrong}, api.ErrArg}, {nil, []api.Worker{well, well, wrong}, api.ErrArg}, {slices.Repeat([]int{0}, 9), []api.Worker{well, out, wrong}, api.ErrBounds},
		{slices.Repeat([]int{0}, 9), []api.Worker{well, wrong, out}, api.ErrArg}, {slices.Repeat([]int{0}, 8), []api.Worker{wide, wrong}, api.ErrBounds}, {[]int{0, 0, 0, 0, 1}, []api.Worker{wide, wrong}, api.ErrArg},
		{nil, []api.Worker{well, done(wrong, 1), at(2, k)}, api.ErrArg}, {nil, []api.Worker{at(0, k, 3)}, api.ErrArg}, {nil, []api.Worker{well, {}}, api.ErrArg}, {nil, []api.Worker{free.Pop()}, api.ErrArg},
	} {
		runRefused(t, x, m, y.picks, y.l, y.e)
		runAsked(t, x, m, y.picks, y.l...)
	}
	for _, y := range []api.Table{{}, {Slots: 3, Nodes: 1}, {Slots: 2, Nodes: 2}, {Slots: 4, Nodes: 2}, {Slots: 3, Nodes: 3}, {Slots: -2, Nodes: 3}, {Slots: 18, Nodes: -1}, {Slots: math.MaxInt, Nodes: math.MaxInt}} {
		runRefused(t, y, m, nil, []api.Worker{well}, api.ErrArg)
		runRefused(t, y, m, nil, []api.Worker{out, well}, api.ErrArg)
	}
	for _, n := range [][]int{nil, {}, m[:13], append(slices.Clone(m), 0)} {
		runRefused(t, x, n, nil, []api.Worker{well}, api.ErrArg)
	}
	for _, y := range []api.Table{{Slots: slots + 1}, {Slots: 1, Nodes: nodes + 1}} {
		runRefused(t, y, make([]int, y.Slots+5*y.Nodes+1), nil, []api.Worker{well}, api.ErrArg)
	}
	// A slot that tells a node that there is not, and a head that does.
	runRefused(t, x, with(m, 1, 3), nil, []api.Worker{well}, api.ErrBounds)
	runRefused(t, x, with(m, 11, 4), nil, []api.Worker{well}, api.ErrBounds)
	// The head may be changed so often that it can't be written.
	runRefused(t, x, with(m, 11, most-base+2), nil, []api.Worker{well}, api.ErrBounds)
	runAsked(t, x, with(m, 11, most-2*base+2), nil, well)
}

// full is a table whose slots are all taken, and its words: each slot tells the node of its place. What begins with 1, 2 and 3 is unlike each node in its last kid alone, if this is below 0.
func full(n int) (api.Table, []int) {
	x := api.Table{Slots: n, Nodes: n}
	m := probe.New(x)
	for i := range n {
		m[i] = i + 1
		copy(m[n+4*i:], []int{1, 2, 3, i})
	}
	clear(m[5*n:])
	return x, m
}

// TestO1Long goes by workers that are done with the last step that there may be, and by others that are not. Each goes past 1000 slots, by 5000 steps.
func TestO1Long(t *testing.T) {
	x, m := full(1000)
	var l, then []api.Worker
	for i := range 20 {
		k := [4]int{1, 2, 3, -1 - i}
		l = append(l, probe.Intern(k))
		then = append(then, done(at(1, k, 1000, 0, hash.Path(k, 1000)[999], 3), -1))
	}
	ahead := slices.Repeat([]int{0}, steps)
	wrong, over := api.Worker{Job: 9}, done(api.Worker{Job: 9}, 5)
	for _, picks := range [][]int{nil, {3, 7, -9}, ahead, append(ahead, 1, 2)} {
		runHeld(t, x, m, picks, l, m, then, api.OK)
		runHeld(t, x, m, picks, append(slices.Clone(l), over), m, append(slices.Clone(then), over), api.OK)
		runRefused(t, x, m, picks, append(slices.Clone(l), at(1, [4]int{1, 2, 3, 0}, 0, 0, 0, 3)), api.ErrLong)
		runRefused(t, x, m, picks, append(slices.Clone(l), l...), api.ErrLong)
	}
	// What would be an error behind the last step is none.
	runRefused(t, x, m, ahead, append(slices.Clone(l), wrong), api.ErrLong)
	runRefused(t, x, m, ahead, append(slices.Clone(l[1:]), wrong), api.ErrArg)
	// One that has a node never puts it where a slot is below 0.
	y := api.Table{Slots: 1, Nodes: 1}
	runRefused(t, y, with(probe.New(y), 0, -1), nil, want([4]int{}), api.ErrLong)
	runRefused(t, y, with(probe.New(y), 0, -1), []int{1, 1, 0}, want([4]int{}, [4]int{}), api.ErrLong)
}

// TestO1Great goes by the greatest table that there may be, whose words are copied once, however many steps there are.
func TestO1Great(t *testing.T) {
	x := api.Table{Slots: slots, Nodes: nodes}
	m, next, all := probe.New(x), chance(), [][4]int{}
	for n := range nodes + 5 {
		all = append(all, [4]int{n, -n, 7, n % 3})
	}
	for from := 0; from < nodes; from += 50 {
		picks := make([]int, 300)
		for i := range picks {
			picks[i] = next(1000) - 500
		}
		var l []api.Worker
		for range 14 {
			// Those that want what others want are so few that each finds a node, though it takes one for a while.
			l = append(l, probe.Intern(all[next(min(from+50, nodes-crowd))]))
		}
		n, v, e := intern.Run(x, m, picks, append(l, want(all[from:from+50]...)...)...)
		if e != api.OK || len(probe.Nodes(x, n)) != from+50 {
			t.Fatal(from, v, e)
		}
		allHeld(t, x, m, n, v)
		m = n
	}
	n, l, e := intern.Run(x, m, nil, want(all[nodes:]...)...)
	if e != api.OK || !slices.Equal(outs(l), []int{-1, -1, -1, -1, -1}) || !slices.Equal(n, m) {
		t.Error(l, e)
	}
	for i, k := range all {
		if n := intern.Find(x, m, k); (n >= 0) != (i < nodes) {
			t.Error(k, n)
		}
	}
}

// TestO1Chance goes by words, workers and picks that chance takes.
func TestO1Chance(t *testing.T) {
	next, seen, longest := chance(), map[api.Errno]int{}, 0
	for range 30000 {
		x := api.Table{Slots: 1 + next(6), Nodes: next(7)}
		m := probe.New(x)
		for range next(4) {
			m, _, _ = intern.Run(x, m, nil, probe.Intern(few(next)))
		}
		var l []api.Worker
		for range next(7) {
			l = append(l, probe.Intern(few(next)))
		}
		switch next(30) {
		case 0:
			m = with(m, next(len(m)), 1+next(9))
		case 1:
			x.Slots++
		case 2, 3, 4:
			l = append(l, api.Worker{Job: 3 + next(9)/8, PC: next(33), Done: next(9) == 0, Regs: [8]int{0, 0, 0, next(3), next(5), next(4), next(4), next(5)}})
		}
		picks := make([]int, next(60))
		for i := range picks {
			picks[i] = next(40) - 20
		}
		e, made := runAsked(t, x, m, picks, l...)
		seen[e]++
		longest = max(longest, made)
	}
	for _, e := range []api.Errno{api.OK, api.ErrArg, api.ErrBounds} {
		if seen[e] < 200 {
			t.Error("seldom met", e, seen[e])
		}
	}
	if longest < 80 {
		t.Error("seldom met: many steps", longest)
	}
}

// TestO2 goes by slots of any numbers. The path of the kids begins at the slot 2, and goes on at 3, 0 and 1.
func TestO2(t *testing.T) {
	x, k := api.Table{Slots: 4, Nodes: 3}, kidsAt(2, 4, 0)
	a := []int{31, 32, 33, k[3]}
	none, other := []int{0, 0, 0, 0}, []int{31, 32, 33, k[3] + 1}
	for _, y := range []struct {
		in                 []int // the slots
		first, second, end []int // the nodes' kids
		want               int
	}{
		{[]int{0, 0, 0, 0}, a, a, a, -1}, {[]int{0, 0, 1, 0}, a, none, none, 0}, {[]int{0, 0, 3, 0}, none, none, a, 2}, {[]int{0, 0, 2, 0}, a, other, a, -1},
		// Of two the first one along the path is found.
		{[]int{0, 0, 2, 1}, a, a, a, 1}, {[]int{1, 0, 3, 2}, a, a, other, 1}, {[]int{1, 2, 3, 3}, a, a, other, 0}, {[]int{3, 2, 3, 1}, other, a, other, 1}, {[]int{3, 1, 3, 2}, other, other, none, -1},
		// Nothing is behind a slot that is below 1.
		{[]int{1, 1, 0, 1}, a, a, a, -1}, {[]int{1, 1, -1, 1}, a, a, a, -1}, {[]int{1, 1, math.MinInt, 1}, a, a, a, -1}, {[]int{1, 1, 2, 0}, a, other, a, -1}, {[]int{1, 1, 2, -1}, a, other, a, -1}, {[]int{0, 1, 2, 2}, a, other, a, -1}, {[]int{-9, 1, 2, 2}, a, other, a, -1},
		// A slot that tells a node that there is not is passed.
		{[]int{0, 0, 4, 1}, a, none, none, 0}, {[]int{0, 0, math.MaxInt, 1}, a, none, none, 0}, {[]int{2, 1 << 32, 5, 4}, a, a, none, 1}, {[]int{4, 4, 4, 4}, a, a, a, -1}, {[]int{2, 4, 1<<32 + 1, 1<<62 + 1}, a, other, a, -1},
		// Each kid counts.
		{[]int{0, 3, 1, 2}, []int{30, 32, 33, k[3]}, []int{31, 31, 33, k[3]}, []int{31, 32, 34, k[3]}, -1}, {[]int{3, 0, 1, 2}, []int{32, 31, 33, k[3]}, []int{31, 32, k[3], 33}, a, 2},
	} {
		m := slices.Concat(y.in, y.first, y.second, y.end, []int{7, 7, 7, 7})
		findHeld(t, x, m, k, y.want)
		if findModel(x, m, k) != y.want {
			t.Error("the model", y)
		}
	}
	// Of a slot that tells no node nothing is found, not even noughts.
	noughts := [4]int{}
	for _, n := range []int{3, 4, 1 << 40, math.MaxInt, 0, -1, math.MinInt} {
		findHeld(t, api.Table{Slots: 2, Nodes: 2}, slices.Concat([]int{n, n}, []int{1, 1, 1, 1, 2, 2, 2, 2, 0, 0, 0}), noughts, -1)
		findHeld(t, api.Table{Slots: 2}, []int{n, n, 0}, noughts, -1)
	}
	findHeld(t, api.Table{Slots: 1, Nodes: 1}, []int{1, 0, 0, 0, 0, 9, 9}, noughts, 0)
	wide := [4]int{math.MinInt, math.MaxInt, -1, 1 << 40}
	findHeld(t, api.Table{Slots: 1, Nodes: 1}, slices.Concat([]int{1}, wide[:], []int{0, 0}), wide, 0)
	findHeld(t, api.Table{Slots: 1, Nodes: 1}, slices.Concat([]int{1}, wide[:], []int{0, 0}), [4]int{math.MinInt, math.MaxInt, -1, 1<<40 + 1<<31}, -1)
}

// unfit holds that of words of which there are not as many as a table has nothing is found, and that such a table is not right; nor one that may not be.
func unfit(t *testing.T, x api.Table, m []int, kids [4]int) {
	t.Helper()
	for _, y := range []api.Table{{}, {Slots: x.Slots + 1, Nodes: x.Nodes}, {Slots: x.Slots - 1, Nodes: x.Nodes}, {Slots: x.Slots, Nodes: x.Nodes + 1}, {Slots: x.Slots, Nodes: x.Nodes - 1}, {Slots: -x.Slots, Nodes: x.Nodes}, {Slots: x.Slots, Nodes: -1}, {Slots: x.Slots + 5*x.Nodes + 5, Nodes: -1}, {Slots: 0, Nodes: x.Nodes}, {Slots: slots + 1, Nodes: x.Nodes}, {Slots: x.Slots, Nodes: nodes + 1}, {Slots: math.MaxInt, Nodes: math.MaxInt}, {Slots: math.MinInt, Nodes: math.MinInt}} {
		for _, words := range [][]int{m, nil} {
			findHeld(t, y, words, kids, -1)
			rightHeld(t, y, words, false)
		}
	}
	for _, words := range [][]int{nil, {}, m[:len(m)-1], append(slices.Clone(m), 0), m[:1], make([]int, 100009)} {
		findHeld(t, x, words, kids, -1)
		rightHeld(t, x, words, false)
	}
}

// TestUnfit goes by tables that may not be, and by words that are not theirs.
func TestUnfit(t *testing.T) {
	for _, x := range []api.Table{{Slots: 1}, {Slots: 4, Nodes: 3}, {Slots: 1, Nodes: 1}, {Slots: 4000, Nodes: 1000}} {
		k := [4]int{1, 0, 2, 0}
		m, l, e := intern.Run(x, probe.New(x), nil, probe.Intern(k))
		if e != api.OK {
			t.Fatal(e)
		}
		rightHeld(t, x, m, true)
		findHeld(t, x, m, k, l[0].Out)
		unfit(t, x, m, k)
	}
	// What has as many words may not be, either.
	for _, x := range []api.Table{{Slots: 4001}, {Slots: 4001, Nodes: 1}, {Slots: 4, Nodes: 1001}, {Slots: 20, Nodes: -2}, {Slots: 20, Nodes: -4}, {Nodes: 2}, {Slots: -1, Nodes: 2}, {Slots: -5, Nodes: 1}} {
		m := slices.Repeat([]int{1}, x.Slots+5*x.Nodes+1)
		findHeld(t, x, m, [4]int{1, 1, 1, 1}, -1)
		rightHeld(t, x, make([]int, len(m)), false)
		rightHeld(t, x, m, false)
		if len(m) > 0 {
			m[0] = 0
		}
		rightHeld(t, x, m, false)
	}
}

// TestO2Chance goes by words that chance takes.
func TestO2Chance(t *testing.T) {
	next, found, none := chance(), 0, 0
	for range 100000 {
		x := api.Table{Slots: 1 + next(5), Nodes: next(4)}
		m := make([]int, x.Slots+5*x.Nodes+1)
		for i := range m {
			if m[i] = next(3); i < x.Slots {
				m[i] = next(x.Nodes+4) - next(2)
			}
		}
		k := few(next)
		if x.Nodes > 0 && next(3) > 0 {
			copy(m[x.Slots+4*next(x.Nodes):], k[:])
		}
		n := findModel(x, m, k)
		if findHeld(t, x, m, k, n); n < 0 {
			none++
		} else {
			found++
		}
	}
	if found < 9000 || none < 9000 {
		t.Error("seldom met", found, none)
	}
}

// TestO3 goes by words of a table that is right, and by others.
func TestO3(t *testing.T) {
	x := api.Table{Slots: 4, Nodes: 3}
	a, b := kidsAt(1, 4, 0), kidsAt(1, 4, 1)
	m, l, e := intern.Run(x, probe.New(x), nil, want(a, b)...)
	if good := slices.Concat([]int{0, 1, 2, 0}, a[:], b[:], []int{0, 0, 0, 0, 2*base + 3, 2, 3, 0}); e != api.OK || !slices.Equal(m, good) || !slices.Equal(outs(l), []int{0, 1}) {
		t.Fatal(m, l, e)
	}
	rightHeld(t, x, m, true)
	for _, y := range []struct {
		at, n int
		is    bool
	}{
		// A slot is empty, or tells a node that there is not, or one that is free, or one that another slot tells.
		{1, 0, false}, {2, 0, false}, {2, 4, false}, {2, 1 << 40, false}, {2, math.MaxInt, false}, {2, -2, false}, {2, math.MinInt, false}, {2, 3, false}, {2, 1, false}, {1, 2, false}, {1, 3, false}, {0, 3, false}, {3, 3, false}, {0, 2, false}, {3, 1, false}, {3, 2, false}, {3, -1, false}, {0, -1, false}, {0, math.MinInt, false}, {0, 4, false}, {3, 4, false},
		// A node's kids are such as are not found at its slot, or are another one's.
		{7, kidsAt(0, 4, 0)[3], false}, {7, kidsAt(2, 4, 0)[3], false}, {7, b[3], false}, {11, a[3], false}, {11, kidsAt(3, 4, 0)[3], false}, {11, kidsAt(0, 4, 0)[3], false}, {11, kidsAt(2, 4, 0)[3], true}, {11, kidsAt(1, 4, 5)[3], true}, {7, kidsAt(1, 4, 5)[3], true},
		// The kids of a node that is free are nobody's.
		{12, 99, true}, {15, math.MinInt, true},
		// The head tells no node, or one that is put, or one that there is not; how often it was changed says nothing.
		{16, 0, false}, {16, 2 * base, false}, {16, -1, false}, {16, 2*base + 1, false}, {16, 2*base + 2, false}, {16, 2*base + 4, false}, {16, math.MaxInt, false}, {16, math.MinInt + 3, false}, {16, 3, true}, {16, math.MaxInt - base + 4, true}, {16, math.MaxInt - base + 3, false},
		// What stands behind a node that is put is nobody's; behind one that is free there may be no other one.
		{17, 0, true}, {17, 3, true}, {18, 1, true}, {18, -9, true}, {19, 1, false}, {19, 2, false}, {19, 3, false},
		// A list that goes on where there is no node ends there.
		{19, 4, true}, {19, -1, true}, {19, base + 3, true}, {19, math.MinInt, true}, {19, math.MaxInt, true},
	} {
		rightHeld(t, x, with(m, y.at, y.n), y.is)
		if rightModel(x, with(m, y.at, y.n)) != y.is {
			t.Error("the model", y)
		}
	}
	unfit(t, x, m, a)
	// All that there is is put; none is; there are no nodes.
	for n := range 60 {
		y, words := full(n + 1)
		rightHeld(t, y, words, true)
		rightHeld(t, y, with(words, n, 0), false)
		rightHeld(t, y, with(words, 5*(n+1), n+1), false)
		rightHeld(t, y, probe.New(y), true)
		rightHeld(t, y, with(probe.New(y), 5*(n+1), 0), false)
		rightHeld(t, api.Table{Slots: n + 1}, make([]int, n+2), true)
		rightHeld(t, api.Table{Slots: n + 1}, with(make([]int, n+2), n, 1), false)
		rightHeld(t, api.Table{Slots: n + 1}, with(make([]int, n+2), n, -1), false)
		rightHeld(t, api.Table{Slots: n + 1}, with(make([]int, n+2), n+1, 5), true)
	}
}

// TestO3Taken holds that a table is not right while a worker has a node that is neither put nor free.
func TestO3Taken(t *testing.T) {
	x := api.Table{Slots: 3, Nodes: 2}
	for _, k := range [][4]int{{}, {1, 0, 0, 0}, kidsAt(0, 3, 0), kidsAt(2, 3, 0)} {
		m, w := probe.New(x), probe.Intern(k)
		for steps := 0; !w.Done; steps++ {
			rightHeld(t, x, m, steps < 4)
			m, w, _ = probe.Step(x, m, w)
		}
		rightHeld(t, x, m, true)
	}
}

// TestO3All goes by all words of small tables, of some numbers.
func TestO3All(t *testing.T) {
	count := map[bool]int{}
	hold := func(x api.Table, m []int) {
		is := rightModel(x, m)
		rightHeld(t, x, m, is)
		count[is]++
	}
	one, heads := api.Table{Slots: 2, Nodes: 1}, []int{0, 1, 2, 3, base, base + 1, -1, 1 - base}
	for _, in := range lists(2, 5) {
		for _, kids := range lists(4, 2) {
			for _, head := range heads {
				for behind := -1; behind < 4; behind++ {
					hold(one, slices.Concat([]int{in[0] - 1, in[1] - 1}, kids, []int{head, behind}))
				}
			}
		}
	}
	two := api.Table{Slots: 3, Nodes: 2}
	last := []int{kidsAt(0, 3, 0)[3], kidsAt(1, 3, 0)[3], kidsAt(2, 3, 0)[3]}
	for _, in := range lists(3, 5) {
		for _, kids := range lists(2, 3) {
			for _, head := range heads {
				for _, behind := range lists(2, 4) {
					hold(two, slices.Concat([]int{in[0] - 1, in[1] - 1, in[2] - 1, 31, 32, 33, last[kids[0]], 31, 32, 33, last[kids[1]], head}, behind))
				}
			}
		}
	}
	if count[true] < 1000 || count[false] < 1000 {
		t.Error("seldom met", count)
	}
}

// TestO3Chance goes by tables that are right, and by such one or two words of which are others.
func TestO3Chance(t *testing.T) {
	next, count := chance(), map[bool]int{}
	for range 20000 {
		x := api.Table{Slots: 1 + next(8), Nodes: next(8)}
		m := probe.New(x)
		for range next(8) {
			m, _, _ = intern.Run(x, m, nil, probe.Intern(few(next)))
		}
		rightHeld(t, x, m, true)
		for range 1 + next(2) {
			m = with(m, next(len(m)), next(x.Nodes+4)-1)
		}
		is := rightModel(x, m)
		rightHeld(t, x, m, is)
		count[is]++
	}
	if count[true] < 2000 || count[false] < 2000 {
		t.Error("seldom met", count)
	}
}

// TestO3Great goes by great tables, and by such as are far from right; all are told soon.
func TestO3Great(t *testing.T) {
	x, m := full(1000)
	rightHeld(t, x, m, true)
	for i := range 50 {
		rightHeld(t, x, with(m, 20*i, 0), false)
		rightHeld(t, x, with(m, 20*i, 1+(20*i+1)%1000), false)
		rightHeld(t, x, with(m, 1000+4*(20*i)+3, (20*i+1)%1000), false)
	}
	x = api.Table{Slots: slots, Nodes: nodes}
	m = probe.New(x)
	rightHeld(t, x, m, true)
	// Nodes that stand in a ring are free each once, as far as they are told.
	rightHeld(t, x, with(m, 9000, 1), true)
	rightHeld(t, x, with(m, 9000, 2), true)
	rightHeld(t, x, with(m, 8999, 1), false)
	rightHeld(t, x, with(m, 8500, 1), false)
	for _, n := range []int{1, 7, nodes, nodes + 1, -1} {
		rightHeld(t, x, slices.Concat(slices.Repeat([]int{n}, slots), m[slots:]), false)
	}
	for i := range slots {
		m[i] = 1 + i%nodes
	}
	rightHeld(t, x, m, false)
	rightHeld(t, x, with(m, slots+4*nodes, 0), false)
}

// state is where all workers are: the words, and the workers.
type state struct {
	x api.Table
	m []int
	l []api.Worker
}

// key is a state as a text, by which it is known again.
func (s state) key() string {
	var out []byte
	put := func(l ...int) {
		for _, x := range l {
			for b := range 8 {
				out = append(out, byte(x>>(8*b)))
			}
		}
	}
	put(s.m...)
	for _, w := range s.l {
		put(w.PC, w.Out)
		put(w.Regs[4:]...)
		if w.Done {
			out = append(out, '!')
		}
	}
	return string(out)
}

// step is a state behind a step of a worker.
func (s state) step(t *testing.T, i int) state {
	t.Helper()
	out := state{x: s.x, l: slices.Clone(s.l)}
	var e api.Errno
	if out.m, out.l[i], e = probe.Step(s.x, s.m, s.l[i]); e != api.OK {
		t.Fatal(s, i, e)
	}
	return out
}

// everyWay goes from a state, to which some picks led, to all that may follow, by any picks, and tells of each in which all are done.
func everyWay(t *testing.T, s state, picks []int, seen map[string]bool, tell func(state, []int)) {
	t.Helper()
	k := s.key()
	if seen[k] {
		return
	}
	if seen[k] = true; len(seen) > 1<<18 {
		t.Fatal("no end", s)
	}
	rank := 0
	for i, w := range s.l {
		if !w.Done {
			everyWay(t, s.step(t, i), append(picks, rank), seen, tell)
			rank++
		}
	}
	if rank == 0 {
		tell(s, picks)
	}
}

// TestO4 goes by all picks that there may be of some workers: what the theorem says holds wherever they come to, and Run comes to the same.
func TestO4(t *testing.T) {
	a, b, c := kidsAt(0, 3, 0), kidsAt(0, 3, 1), kidsAt(1, 3, 0)
	for _, y := range []struct {
		slots, nodes int
		there, l     [][4]int
	}{
		{3, 2, nil, [][4]int{a, a}}, {3, 2, nil, [][4]int{a, b}}, {3, 2, nil, [][4]int{a, c}}, {3, 1, nil, [][4]int{a, a}}, {3, 1, nil, [][4]int{a, b}}, {1, 2, nil, [][4]int{a, b}}, {1, 2, nil, [][4]int{a, a}}, {3, 0, nil, [][4]int{a, b}}, {2, 3, nil, [][4]int{a, b}},
		{3, 3, [][4]int{a}, [][4]int{b, b}}, {3, 3, [][4]int{a}, [][4]int{a, b}}, {3, 3, [][4]int{a}, [][4]int{b, c}}, {3, 3, [][4]int{a, b}, [][4]int{c, c}}, {3, 2, [][4]int{a, b}, [][4]int{c, a}}, {3, 4, [][4]int{a, b, c}, [][4]int{kidsAt(2, 3, 0), b}},
		{3, 1, nil, [][4]int{a, a, b}}, {1, 1, nil, [][4]int{a, a, b}}, {3, 2, [][4]int{a}, [][4]int{b, b, c}}, {2, 1, nil, [][4]int{a, b, c}}, {3, 2, nil, [][4]int{a, a, a}},
	} {
		s := state{x: api.Table{Slots: y.slots, Nodes: y.nodes}, l: want(y.l...)}
		s.m = probe.New(s.x)
		for _, k := range y.there {
			s.m, _, _ = intern.Run(s.x, s.m, nil, probe.Intern(k))
		}
		ends := 0
		everyWay(t, s, nil, map[string]bool{}, func(end state, picks []int) {
			ends++
			allHeld(t, s.x, s.m, end.m, end.l)
			runHeld(t, s.x, s.m, picks, s.l, end.m, end.l, api.OK)
		})
		if ends == 0 {
			t.Error("no end", y)
		}
	}
}

// TestO4Run goes by tables, workers and picks that chance takes.
func TestO4Run(t *testing.T) {
	next, none, gave, same := chance(), 0, 0, 0
	for range 6000 {
		x := api.Table{Slots: 1 + next(40), Nodes: next(40)}
		m := probe.New(x)
		for range 2 {
			var l []api.Worker
			for range next(30) {
				l = append(l, probe.Intern([4]int{next(2), next(3), 0, next(3)}))
			}
			picks := make([]int, next(500))
			for i := range picks {
				picks[i] = next(200) - 100
			}
			n, v, e := intern.Run(x, m, picks, l...)
			if e != api.OK {
				t.Fatal(x, m, picks, l, e)
			}
			allHeld(t, x, m, n, v)
			for i, w := range v {
				if w.Out < 0 {
					none++
				}
				if w.PC == 32 {
					gave++
				}
				if i > 0 && w.Out == v[0].Out {
					same++
				}
			}
			m = n
		}
	}
	if none < 1000 || gave < 1000 || same < 1000 {
		t.Error("seldom met", none, gave, same)
	}
}

// TestO4Room goes by workers of whom there are as many as nodes are free, and slots empty, and by one more.
func TestO4Room(t *testing.T) {
	next, none := chance(), 0
	for range 3000 {
		n, more, over := 1+next(20), next(3), next(2)
		x := api.Table{Slots: n + more, Nodes: n + next(2)*more}
		var l []api.Worker
		for i := range n + over {
			l = append(l, probe.Intern([4]int{next(2), 5, 0, i}))
		}
		picks := make([]int, next(300))
		for i := range picks {
			picks[i] = next(90) - 45
		}
		m, v, e := intern.Run(x, probe.New(x), picks, l...)
		if e != api.OK {
			t.Fatal(x, picks, l, e)
		}
		allHeld(t, x, probe.New(x), m, v)
		if ends := slices.Contains(outs(v), -1); ends != (n+over > x.Nodes) {
			t.Fatal(x, picks, v)
		} else if ends {
			none++
		}
	}
	if none < 500 {
		t.Error("seldom met", none)
	}
}

// spoil writes into a list, and into its spare room.
func spoil[T any](l []T, x T) {
	l = l[:cap(l)]
	for i := range l {
		l[i] = x
	}
}

// TestR3 writes into all that comes out, and looks whether what is handed in, and what else came out, stays as it was.
func TestR3(t *testing.T) {
	bad := api.Worker{Job: -9, PC: -9}
	for n := range 30 {
		x := api.Table{Slots: 1 + n, Nodes: n}
		room := append(probe.New(x), 8, 9, 9)
		m, was := room[:len(room)-3], slices.Clone(room)
		for size := range 5 {
			wide := append(slices.Repeat(want([4]int{1, 1, 0, n}), size), bad, bad)
			ps := []int{3, 1, 4, 1, 5}
			for _, l := range [][]api.Worker{wide[:size], nil, {done(at(0, [4]int{}), 1)}} {
				given := slices.Clone(l)
				first, w, _ := intern.Run(x, m, ps[:3], l...)
				second, v, _ := intern.Run(x, m, ps[:3], l...)
				keep, others := slices.Clone(second), slices.Clone(v)
				spoil(first, -99)
				spoil(w, bad)
				if !slices.Equal(room, was) || !slices.Equal(l, given) || !slices.Equal(second, keep) || !slices.Equal(v, others) || !slices.Equal(ps, []int{3, 1, 4, 1, 5}) {
					t.Error("shared by Run", n, room, l, second, v)
				}
			}
			if wide[size] != bad || wide[size+1] != bad {
				t.Error("written into behind its length", wide)
			}
		}
		if rightHeld(t, x, m, true); !slices.Equal(room, was) {
			t.Error("written into behind its length", n, room)
		}
	}
}

// TestR4 holds that what is answered hangs on what is asked alone, not on what was asked ahead of it.
func TestR4(t *testing.T) {
	type ask struct {
		x    api.Table
		m    []int
		kids [4]int
		l    []api.Worker
	}
	next := chance()
	var all []ask
	for range 60 {
		x := api.Table{Slots: 1 + next(5), Nodes: next(5)}
		m, _, _ := intern.Run(x, probe.New(x), nil, want(few(next), few(next))...)
		all = append(all, ask{x, m, few(next), want(few(next), few(next), few(next))})
	}
	for i := range 1000 {
		y := all[i*7%len(all)]
		findHeld(t, y.x, y.m, y.kids, findModel(y.x, y.m, y.kids))
		rightHeld(t, y.x, y.m, true)
		runAsked(t, y.x, y.m, []int{i, -i}, y.l...)
	}
}
