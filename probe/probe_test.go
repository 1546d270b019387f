package probe_test

import (
	"math"
	"math/big"
	"slices"
	"testing"

	"gosper/api"
	"gosper/hash"
	"gosper/mem"
	"gosper/probe"
)

const (
	base  = 1 << 20
	most  = 1<<60 - 1
	slots = 4000
	nodes = 1000
)

// pcs are all places that there are in what a worker does.
func pcs() []int { return []int{0, 1, 10, 11, 12, 13, 20, 30, 31, 32} }

// rightModel is what Right should answer.
func rightModel(x api.Table) bool {
	return x.Slots > 0 && x.Slots < slots+1 && x.Nodes > -1 && x.Nodes < nodes+1
}

// newModel is what New should answer.
func newModel(x api.Table) []int {
	if !rightModel(x) {
		return nil
	}
	m := make([]int, x.Slots+x.Nodes*4)
	for n := range x.Nodes {
		m = append(m, n+1)
	}
	return append(m, 0)
}

// partsModel are c and h of a number.
func partsModel(n int) (c, h int) {
	if n < 0 {
		return 0, 0
	}
	q, r := new(big.Int).DivMod(big.NewInt(int64(n)), big.NewInt(base), new(big.Int))
	return int(q.Int64()), int(r.Int64())
}

// headModel is the head behind another one: c of that and 1 times 2^20, and a number, as a sum that goes round.
func headModel(head, first int) int {
	c, _ := partsModel(head)
	x := big.NewInt(int64(c))
	x.Mul(x.Add(x, big.NewInt(1)), big.NewInt(base))
	x.Add(x, big.NewInt(int64(first)))
	x.And(x, new(big.Int).SetUint64(math.MaxUint64))
	return int(x.Uint64())
}

// mayModel tells whether a worker may make a step at a table that is right, and has as many words.
func mayModel(x api.Table, w api.Worker) bool {
	r4, r7 := w.Regs[4], w.Regs[7]
	switch {
	case w.Done, w.Job != 3, !slices.Contains(pcs(), w.PC), r4 < 0, r7 < 0:
		return false
	case r4 >= x.Slots && slices.Contains([]int{0, 1, 20}, w.PC), r7 > 3 && slices.Contains([]int{1, 13}, w.PC):
		return false
	}
	return true
}

// accessModel is the access that the chapter's table has at a worker's PC.
func accessModel(x api.Table, w api.Worker) api.Access {
	r, none := w.Regs, x.Slots+5*x.Nodes+1
	slot, head := hash.Slot(hash.Of([4]int{r[0], r[1], r[2], r[3]}), r[4], x.Slots), x.Slots+4*x.Nodes
	_, h := partsModel(r[6])
	of := func(node, ahead, each int) int {
		if node < 0 || node >= x.Nodes {
			return none
		}
		return ahead + each*node
	}
	switch w.PC {
	case 0:
		return api.Access{Kind: api.Load, At: slot}
	case 1:
		return api.Access{Kind: api.Load, At: of(r[6], x.Slots+r[7], 4)}
	case 11:
		return api.Access{Kind: api.Load, At: head + h}
	case 12:
		return api.Access{Kind: api.Swap, At: head, Old: r[6], New: headModel(r[6], r[7])}
	case 13:
		return api.Access{Kind: api.Write, At: of(r[5]-1, x.Slots+r[7], 4), New: r[r[7]]}
	case 20:
		return api.Access{Kind: api.Swap, At: slot, Old: 0, New: r[5]}
	case 31:
		return api.Access{Kind: api.Write, At: of(r[5]-1, head+1, 1), New: h}
	case 32:
		return api.Access{Kind: api.Swap, At: head, Old: r[6], New: headModel(r[6], r[5])}
	}
	return api.Access{Kind: api.Load, At: head} // at PC 10 and 30
}

// thenModel is what the chapter's table makes of a worker: x is what was there.
func thenModel(slots int, w api.Worker, x int, done bool) api.Worker {
	r := &w.Regs
	end := func(n int) {
		if w.Out = n; r[5] != 0 {
			w.PC = 30
		} else {
			w.Done = true
		}
	}
	either := func(is bool, yes, no int) {
		if w.PC = no; is {
			w.PC = yes
		}
	}
	switch w.PC {
	case 0:
		if x < 1 {
			either(r[5] != 0, 20, 10)
		} else {
			r[6], r[7], w.PC = x-1, 0, 1
		}
	case 1:
		if x == r[r[7]] {
			if r[7]++; r[7] == 4 {
				end(r[6])
			}
		} else if r[4]++; r[4] == slots {
			end(-1)
		} else {
			w.PC = 0
		}
	case 10:
		r[6] = x
		if _, h := partsModel(x); h == 0 {
			end(-1)
		} else {
			w.PC = 11
		}
	case 11:
		r[7], w.PC = x, 12
	case 12:
		if either(done, 13, 10); done {
			_, r[5] = partsModel(r[6])
			r[7] = 0
		}
	case 13:
		r[7]++
		either(r[7] == 4, 20, 13)
	case 20:
		if done {
			w.Done, w.Out = true, r[5]-1
		} else {
			w.PC = 0
		}
	case 30:
		r[6], w.PC = x, 31
	case 31:
		w.PC = 32
	case 32:
		if done {
			r[5], w.Done = 0, true
		} else {
			w.PC = 30
		}
	}
	return w
}

// stepModel is what Step should answer: the chapter's table line by line.
func stepModel(x api.Table, m []int, w api.Worker) ([]int, api.Worker, api.Errno) {
	if !rightModel(x) || len(m) != x.Slots+5*x.Nodes+1 || !mayModel(x, w) {
		return m, w, api.ErrArg
	}
	out, there, done, e := mem.Do(m, accessModel(x, w))
	if e != api.OK {
		return m, w, e
	}
	return out, thenModel(x.Slots, w, there, done), api.OK
}

// short is the beginning of a list, for a test's remark.
func short(l []int) []int { return l[:min(len(l), 30)] }

// with are words one of which is another one.
func with(m []int, at, n int) []int { return slices.Concat(m[:at], []int{n}, m[at+1:]) }

// at is a worker at a PC, of four kids, and with r4 and so on.
func at(pc int, kids [4]int, r ...int) api.Worker {
	w := api.Worker{Job: 3, PC: pc}
	copy(w.Regs[:4], kids[:])
	copy(w.Regs[4:], r)
	return w
}

// done is a worker that is done.
func done(w api.Worker, out int) api.Worker {
	w.Done, w.Out = true, out
	return w
}

// ended is a worker that comes to something, and has a node to give back.
func ended(w api.Worker, out int) api.Worker {
	w.Out = out
	return w
}

// held holds what Step answers against what it should be, and that the words that were handed in are as they were.
func held(t *testing.T, x api.Table, m []int, w api.Worker, want []int, then api.Worker, f api.Errno) {
	t.Helper()
	was := slices.Clone(m)
	got, v, e := probe.Step(x, m, w)
	if !slices.Equal(got, want) || v != then || e != f {
		t.Fatalf("%v at %v of %d %v: %d %v %v %d, not %d %v %v %d", w, x, len(was), short(was), len(got), short(got), v, e, len(want), short(want), then, f)
	}
	if !slices.Equal(m, was) {
		t.Fatalf("%v at %v of %v: written into: %v", w, x, short(was), short(m))
	}
}

// refused holds that Step answers an error, and all as it was.
func refused(t *testing.T, x api.Table, m []int, w api.Worker, f api.Errno) {
	t.Helper()
	held(t, x, m, w, slices.Clone(m), w, f)
}

// asked holds Step against the model, and tells what comes out.
func asked(t *testing.T, x api.Table, m []int, w api.Worker) ([]int, api.Worker, api.Errno) {
	t.Helper()
	want, then, f := stepModel(x, slices.Clone(m), w)
	held(t, x, m, w, want, then, f)
	return want, then, f
}

// walk lets a worker go on alone, till it is done, and tells the PCs that it came by.
func walk(t *testing.T, x api.Table, m []int, w api.Worker) ([]int, api.Worker, []int) {
	t.Helper()
	var by []int
	for !w.Done {
		if by = append(by, w.PC); len(by) > 5*x.Slots+40 {
			t.Fatal("no end", x, w)
		}
		var e api.Errno
		if m, w, e = asked(t, x, m, w); e != api.OK {
			t.Fatal(x, w, e)
		}
	}
	return m, w, by
}

// kidsAt are four unlike kids whose path begins at a slot; those of other numbers are others.
func kidsAt(slot, slots, number int) [4]int {
	for n := 1000 * number; ; n++ {
		if kids := [4]int{31, 32, 33, 40 + n}; hash.Slot(hash.Of(kids), 0, slots) == slot {
			return kids
		}
	}
}

// edges are numbers about those at which something changes, and some others.
func edges() []int {
	out := []int{math.MinInt, math.MinInt + 1, math.MaxInt - 1, math.MaxInt, 1 << 32, -1 << 32, most - base, math.MaxInt - base, math.MaxInt - base + 1}
	for _, n := range []int{0, 3, base, 2 * base, most, 1 << 61, 1 << 62} {
		for d := -2; d <= 2; d++ {
			out = append(out, n+d, -n+d)
		}
	}
	slices.Sort(out)
	return slices.Compact(out)
}

// chance gives numbers below others, always the same ones.
func chance() func(int) int {
	x := 1
	return func(below int) int {
		x = x*6364136223846793005 + 1442695040888963407
		return int(uint(x) >> 33 % uint(below))
	}
}

// few are four kids of which there are few others.
func few(next func(int) int) [4]int {
	return [4]int{next(2), 0, next(2), next(3)}
}

// whole holds that each node of a table is in one slot, or free, once, but those that workers have taken and not yet put or given back.
func whole(t *testing.T, x api.Table, m []int, taken ...int) {
	t.Helper()
	all := append(slices.Clone(taken), probe.Nodes(x, m)...)
	head := x.Slots + 4*x.Nodes
	for _, n := partsModel(m[head]); n != 0 && len(all) <= x.Nodes; n = m[head+n] {
		all = append(all, n-1)
	}
	slices.Sort(all)
	for i, n := range all {
		if i != n {
			t.Fatal("not each node once", x, m, all)
		}
	}
	if len(all) != x.Nodes {
		t.Fatal("not all nodes", x, m, all)
	}
}

// TestExample goes by kids whose paths begin at unlike slots, and at the same one.
func TestExample(t *testing.T) {
	x := api.Table{Slots: 2, Nodes: 1}
	m, w, _ := walk(t, x, probe.New(x), probe.Intern([4]int{0, 0, 0, 1}))
	n, v, _ := walk(t, x, m, probe.Intern([4]int{0, 0, 0, 1}))
	if w.Out != 0 || v.Out != 0 || !slices.Equal(m, n) {
		t.Error(w, v, m, n)
	}
	if n, v, _ = walk(t, x, m, probe.Intern([4]int{0, 0, 1, 1})); v.Out != -1 || !slices.Equal(m, n) {
		t.Error(v, m, n)
	}
	for slot := range 2 {
		if _, v, _ = walk(t, x, m, probe.Intern(kidsAt(slot, 2, 0))); v.Out != -1 {
			t.Error(slot, v)
		}
	}
}

func TestNumbers(t *testing.T) {
	if api.FreeBase != base || api.MaxFree != nodes || api.MaxSlots != slots || api.MaxWord != most || api.JobIntern != 3 {
		t.Error("these tests go by other numbers")
	}
}

// TestN1Right goes by tables at the edges of what may be.
func TestN1Right(t *testing.T) {
	numbers := append(edges(), 999, 1000, 1001, 1002, 3999, 4000, 4001, 4002, 1<<32+5)
	for _, s := range numbers {
		for _, n := range numbers {
			x := api.Table{Slots: s, Nodes: n}
			if got := probe.Right(x); got != rightModel(x) {
				t.Error(x, got)
			}
			if m := probe.New(x); !slices.Equal(m, newModel(x)) {
				t.Error(x, len(m), short(m))
			}
		}
	}
	for _, x := range []struct {
		t  api.Table
		is bool
	}{
		{api.Table{}, false}, {api.Table{Slots: 1}, true}, {api.Table{Nodes: 1}, false}, {api.Table{Slots: 4000, Nodes: 1000}, true}, {api.Table{Slots: 4001, Nodes: 1000}, false}, {api.Table{Slots: 4000, Nodes: 1001}, false},
		{api.Table{Slots: 1, Nodes: -1}, false}, {api.Table{Slots: -1, Nodes: 1}, false}, {api.Table{Slots: 1, Nodes: 1000}, true}, {api.Table{Slots: 4000}, true},
	} {
		if probe.Right(x.t) != x.is {
			t.Error(x)
		}
	}
}

// TestN1Fit goes by words of which there are as many as a table has, and by others.
func TestN1Fit(t *testing.T) {
	for _, x := range []api.Table{{}, {Slots: 1}, {Slots: 2, Nodes: 3}, {Nodes: 3}, {Slots: 9, Nodes: -1}, {Slots: -3, Nodes: 1}, {Slots: 4000, Nodes: 1000}, {Slots: 4001}, {Slots: 1, Nodes: 1001}, {Slots: math.MaxInt, Nodes: math.MaxInt}} {
		many := x.Slots + 5*x.Nodes + 1
		for n := many - 2; n < many+3; n++ {
			if n >= 0 && probe.Fit(x, make([]int, n)) != (n == many && rightModel(x)) {
				t.Error(x, n)
			}
		}
	}
}

// TestN1New goes by tables of all numbers of slots, and of all numbers of nodes.
func TestN1New(t *testing.T) {
	for _, x := range []struct {
		s, n int
		m    []int
	}{
		{1, 0, []int{0, 0}}, {3, 0, []int{0, 0, 0, 0}}, {1, 1, []int{0, 0, 0, 0, 0, 1, 0}}, {2, 3, []int{0, 0, 0, 0, 0, 0, 0, 0, 0, 0, 0, 0, 0, 0, 1, 2, 3, 0}}, {0, 3, nil}, {3, -1, nil}, {-4, 4, nil},
	} {
		if m := probe.New(api.Table{Slots: x.s, Nodes: x.n}); !slices.Equal(m, x.m) {
			t.Error(x, m)
		}
	}
	for s := 1; s <= slots; s++ {
		x := api.Table{Slots: s, Nodes: s * 7 % (nodes + 1)}
		if m := probe.New(x); !slices.Equal(m, newModel(x)) {
			t.Fatal(x, len(m), short(m))
		}
	}
}

func TestN2(t *testing.T) {
	for _, a := range edges() {
		for place := range 4 {
			kids := [4]int{5, 6, 7, 8}
			kids[place] = a
			if w := probe.Intern(kids); w != (api.Worker{Job: 3, Regs: [8]int{kids[0], kids[1], kids[2], kids[3]}}) {
				t.Error(kids, w)
			}
		}
	}
}

// rowsWords are words of a table of 3 slots and 2 nodes: the kids stand from the place 3 on, the head at 11, and the free list's words of the two nodes behind that.
func rowsWords(k [4]int) []int {
	return []int{2, -7, 0, 9, 9, 9, k[3], 31, 32, 33, 9, 5*base + 2, -6, 1}
}

// rows are the lines of the chapter's table, at those words, for kids whose path begins at the slot 2.
func rows(m []int, k [4]int) []row {
	head := m[11]
	return []row{
		// At the slots 2, 0 and 1, in this order: 0, 2 and -7.
		{at(0, k, 0), m, at(10, k, 0)},
		{at(0, k, 0, 1), m, at(20, k, 0, 1)},
		{at(0, k, 0, -1, 8, 9), m, at(20, k, 0, -1, 8, 9)},
		{at(0, k, 1, 0, 77, 9), m, at(1, k, 1, 0, 1, 0)},
		{at(0, k, 1, 2, 77, 3), m, at(1, k, 1, 2, 1, 0)},
		{at(0, k, 2, 0, 77, 3), m, at(10, k, 2, 0, 77, 3)},
		{at(0, k, 2, 2, 77, 3), m, at(20, k, 2, 2, 77, 3)},
		// Of the node 1 all kids but the last one are these.
		{at(1, k, 1, 0, 1, 0), m, at(1, k, 1, 0, 1, 1)},
		{at(1, k, 1, 9, 1, 1), m, at(1, k, 1, 9, 1, 2)},
		{at(1, k, 1, 0, 1, 2), m, at(1, k, 1, 0, 1, 3)},
		{at(1, k, 1, 0, 1, 3), m, at(0, k, 2, 0, 1, 3)},
		{at(1, k, 1, 9, 1, 3), m, at(0, k, 2, 9, 1, 3)},
		{at(1, k, 0, 0, 1, 3), m, at(0, k, 1, 0, 1, 3)},
		{at(1, k, 2, 0, 1, 3), m, done(at(1, k, 3, 0, 1, 3), -1)},
		{at(1, k, 2, 1, 1, 3), m, ended(at(30, k, 3, 1, 1, 3), -1)},
		{at(1, k, 2, -8, 1, 3), m, ended(at(30, k, 3, -8, 1, 3), -1)},
		// Of the node 0 the last one alone is.
		{at(1, k, 0, 0, 0, 0), m, at(0, k, 1, 0, 0, 0)},
		{at(1, k, 0, 0, 0, 1), m, at(0, k, 1, 0, 0, 1)},
		{at(1, k, 0, 0, 0, 2), m, at(0, k, 1, 0, 0, 2)},
		{at(1, k, 0, 0, 0, 3), m, done(at(1, k, 0, 0, 0, 4), 0)},
		{at(1, k, 2, 2, 0, 3), m, ended(at(30, k, 2, 2, 0, 4), 0)},
		{at(1, k, 2, -2, 0, 3), m, ended(at(30, k, 2, -2, 0, 4), 0)},
		{at(10, k, 1, 0, 7, 8), m, at(11, k, 1, 0, head, 8)},
		{at(10, k, 9, 5, 7, 8), m, at(11, k, 9, 5, head, 8)},
		{at(11, k, 1, 0, head, 8), m, at(12, k, 1, 0, head, 1)},
		{at(11, k, 9, 4, base+1, 0), m, at(12, k, 9, 4, base+1, -6)},
		{at(11, k, 1, 0, 9*base, 8), m, at(12, k, 1, 0, 9*base, head)}, // of h 0 the head itself is read
		{at(11, k, 1, 0, -4, 8), m, at(12, k, 1, 0, -4, head)},
		{at(12, k, 1, 0, head, 1), with(m, 11, 6*base+1), at(13, k, 1, 2, head, 0)},
		{at(12, k, 9, 7, head, 0), with(m, 11, 6*base), at(13, k, 9, 2, head, 0)},
		{at(12, k, 1, 7, head, 90), with(m, 11, 6*base+90), at(13, k, 1, 2, head, 0)},
		{at(12, k, 1, 0, head-base, 1), m, at(10, k, 1, 0, head-base, 1)}, // the same node, but of another change
		{at(12, k, 1, 7, head-1, 1), m, at(10, k, 1, 7, head-1, 1)},
		{at(13, k, 1, 1, 6, 0), with(m, 3, k[0]), at(13, k, 1, 1, 6, 1)},
		{at(13, k, 1, 1, 6, 1), with(m, 4, k[1]), at(13, k, 1, 1, 6, 2)},
		{at(13, k, 9, 1, 6, 2), with(m, 5, k[2]), at(13, k, 9, 1, 6, 3)},
		{at(13, k, 1, 1, 6, 3), with(m, 6, k[3]), at(20, k, 1, 1, 6, 4)},
		{at(13, k, 1, 2, -6, 0), with(m, 7, k[0]), at(13, k, 1, 2, -6, 1)},
		{at(13, k, 1, 2, -6, 3), with(m, 10, k[3]), at(20, k, 1, 2, -6, 4)},
		{at(20, k, 0, 2, 6, 4), with(m, 2, 2), done(at(20, k, 0, 2, 6, 4), 1)},
		{at(20, k, 0, 1, 6, 9), with(m, 2, 1), done(at(20, k, 0, 1, 6, 9), 0)},
		{at(20, k, 0, 0, 6, 4), m, done(at(20, k, 0, 0, 6, 4), -1)},
		{at(20, k, 0, -5, 6, 4), with(m, 2, -5), done(at(20, k, 0, -5, 6, 4), -6)},
		{at(20, k, 0, 900, 6, 4), with(m, 2, 900), done(at(20, k, 0, 900, 6, 4), 899)},
		{at(20, k, 1, 1, 6, 4), m, at(0, k, 1, 1, 6, 4)},
		{at(20, k, 2, 1, 6, 4), m, at(0, k, 2, 1, 6, 4)},
		{at(20, k, 1, 2, 6, 4), m, at(0, k, 1, 2, 6, 4)}, // it is there already, but was not 0
		{at(30, k, 3, 2, 7, 8), m, at(31, k, 3, 2, head, 8)},
		{at(30, k, 3, 0, 7, 8), m, at(31, k, 3, 0, head, 8)},
		{at(31, k, 3, 1, head, 8), with(m, 12, 2), at(32, k, 3, 1, head, 8)},
		{at(31, k, 3, 2, 4*base+1, 8), with(m, 13, 1), at(32, k, 3, 2, 4*base+1, 8)},
		{at(31, k, 3, 2, 4*base+99, 8), with(m, 13, 99), at(32, k, 3, 2, 4*base+99, 8)},
		{at(31, k, 3, 2, 4*base, 8), with(m, 13, 0), at(32, k, 3, 2, 4*base, 8)},
		{at(31, k, 3, 2, -3, 8), with(m, 13, 0), at(32, k, 3, 2, -3, 8)},
		{at(32, k, 3, 1, head, 8), with(m, 11, 6*base+1), settled(at(32, k, 3, 0, head, 8))},
		{at(32, k, 3, 0, head, 8), with(m, 11, 6*base), settled(at(32, k, 3, 0, head, 8))},
		{at(32, k, 3, -5, head, 8), with(m, 11, 6*base-5), settled(at(32, k, 3, 0, head, 8))},
		{at(32, k, 3, 900, head, 8), with(m, 11, 6*base+900), settled(at(32, k, 3, 0, head, 8))},
		{at(32, k, 3, 1, head-base, 8), m, at(30, k, 3, 1, head-base, 8)},
		{at(32, k, 3, 1, 2, 8), m, at(30, k, 3, 1, 2, 8)},
	}
}

// row is a worker, and the words and the worker behind a step of it.
type row struct {
	w    api.Worker
	m    []int
	then api.Worker
}

// settled is a worker that is done, and that came to something ahead of it.
func settled(w api.Worker) api.Worker {
	w.Done = true
	return w
}

// TestN3Steps goes by each line of the table.
func TestN3Steps(t *testing.T) {
	x, k := api.Table{Slots: 3, Nodes: 2}, kidsAt(2, 3, 0)
	m := rowsWords(k)
	for _, y := range rows(m, k) {
		held(t, x, m, y.w, y.m, y.then, api.OK)
		// What came out ahead stays, where nothing comes out.
		w, then := y.w, y.then
		w.Out = 55
		if then.PC != w.PC && then.PC == 30 && w.PC == 1 || then.Done && w.PC != 32 {
			held(t, x, m, w, y.m, then, api.OK)
			continue
		}
		then.Out = 55
		held(t, x, m, w, y.m, then, api.OK)
	}
}

// TestN3None goes by heads of which nothing is free, and by others.
func TestN3None(t *testing.T) {
	x, k := api.Table{Slots: 1, Nodes: 1}, [4]int{1, 2, 3, 4}
	of := func(head int) []int { return []int{0, 9, 9, 9, 9, head, 3} }
	for _, head := range []int{0, base, 5 * base, math.MaxInt - base + 1, -1, -7, -base, 1 - base, -base - 1, math.MinInt, math.MinInt + 1} {
		held(t, x, of(head), at(10, k, 0, 0, 8, 7), of(head), done(at(10, k, 0, 0, head, 7), -1), api.OK)
		held(t, x, of(head), at(10, k, 0, 5, 8, 7), of(head), ended(at(30, k, 0, 5, head, 7), -1), api.OK)
		held(t, x, of(head), at(30, k, 0, 1, 8, 7), of(head), at(31, k, 0, 1, head, 7), api.OK)
		held(t, x, of(head), at(31, k, 0, 1, head, 7), with(of(head), 6, 0), at(32, k, 0, 1, head, 7), api.OK)
	}
	for _, head := range []int{1, 2, base - 1, base + 1, 2*base - 1, math.MaxInt} {
		held(t, x, of(head), at(10, k, 0, 0, 8, 7), of(head), at(11, k, 0, 0, head, 7), api.OK)
		held(t, x, of(head), at(10, k, 0, 5, 8, 7), of(head), at(11, k, 0, 5, head, 7), api.OK)
	}
	// One that swaps from a head of which nothing is free has none.
	held(t, x, of(5*base), at(12, k, 0, 9, 5*base, 7), of(6*base+7), at(13, k, 0, 0, 5*base, 0), api.OK)
	held(t, x, of(-5), at(12, k, 0, 9, -5, 7), of(base+7), at(13, k, 0, 0, -5, 0), api.OK)
	held(t, x, of(-5), at(32, k, 0, 9, -5, 7), of(base+9), settled(at(32, k, 0, 0, -5, 7)), api.OK)
}

// TestN3Slot goes by where a worker's slot is: at each place of each path of some kids.
func TestN3Slot(t *testing.T) {
	next := chance()
	for _, s := range []int{1, 2, 3, 4, 7, 16, 100, slots} {
		x := api.Table{Slots: s, Nodes: 1}
		m := probe.New(x)
		for n := range 20 {
			k := [4]int{next(1 << 30), -next(1 << 30), next(4) << 40, next(3)}
			path := hash.Path(k, s)
			for r4, slot := range path[:min(s, 100)] {
				held(t, x, with(m, slot, 500+n), at(0, k, r4, 0, 8, 9), with(m, slot, 500+n), at(1, k, r4, 0, 499+n, 0), api.OK)
				held(t, x, m, at(20, k, r4, 1, 8, 9), with(m, slot, 1), done(at(20, k, r4, 1, 8, 9), 0), api.OK)
			}
			held(t, x, with(m, path[s-1], 1), at(0, k, s-1), with(m, path[s-1], 1), at(1, k, s-1, 0, 0, 0), api.OK)
		}
	}
}

// TestN3Arg goes by tables, words and workers that may not be: that is told ahead of what an access would tell.
func TestN3Arg(t *testing.T) {
	x, k := api.Table{Slots: 3, Nodes: 2}, [4]int{1, 2, 3, 4}
	m := probe.New(x)
	// Each of these has an access to no word, or of what may not be written, but at PC 0, 10 and 30.
	for _, pc := range pcs() {
		w := at(pc, k, 1, 1<<61, 99, 1)
		if pc == 12 || pc == 32 {
			w.Regs[6] = most
		}
		if _, _, e := asked(t, x, m, w); e != api.ErrBounds && pc != 0 && pc != 10 && pc != 30 {
			t.Error("no such access", w, e)
		}
		for _, y := range []api.Table{{}, {Slots: 4, Nodes: 2}, {Slots: 2, Nodes: 2}, {Slots: 3, Nodes: 1}, {Slots: 3, Nodes: 3}, {Slots: 13}, {Slots: 8, Nodes: 1}, {Slots: -3, Nodes: 2}, {Slots: 18, Nodes: -1}, {Slots: -2, Nodes: 3}, {Slots: math.MaxInt, Nodes: math.MaxInt}, {Slots: math.MinInt, Nodes: math.MinInt}} {
			if len(m) == y.Slots+5*y.Nodes+1 && rightModel(y) {
				continue
			}
			refused(t, y, m, w, api.ErrArg)
		}
		for _, words := range [][]int{nil, {}, {0}, m[:13], append(slices.Clone(m), 0), make([]int, 13), make([]int, 15), make([]int, 100001)} {
			refused(t, x, words, w, api.ErrArg)
		}
		refused(t, api.Table{Slots: 4001}, make([]int, 4002), w, api.ErrArg)
		refused(t, api.Table{Nodes: 1}, make([]int, 6), w, api.ErrArg)
		refused(t, api.Table{Slots: 6, Nodes: -1}, make([]int, 2), w, api.ErrArg)
		refused(t, api.Table{Slots: 1, Nodes: 1001}, make([]int, 5007), w, api.ErrArg)
		refused(t, x, m, settled(w), api.ErrArg)
		for _, job := range []int{math.MinInt, -3, -1, 0, 1, 2, 4, 5, 6, 7, 8, 1<<32 + 3, math.MaxInt} {
			v := w
			v.Job = job
			refused(t, x, m, v, api.ErrArg)
		}
		for _, r := range []int{math.MinInt, -1 << 32, -4, -1} {
			v, u := w, w
			v.Regs[4], u.Regs[7] = r, r
			refused(t, x, m, v, api.ErrArg)
			refused(t, x, m, u, api.ErrArg)
		}
	}
	for pc := -40; pc < 80; pc++ {
		if !slices.Contains(pcs(), pc) {
			refused(t, x, m, at(pc, k), api.ErrArg)
		}
	}
	for _, pc := range []int{math.MinInt, math.MinInt + 10, 1 << 32, 1<<32 + 1, 1<<32 + 10, math.MaxInt} {
		refused(t, x, m, at(pc, k), api.ErrArg)
	}
}

// TestN3ArgNumbers goes by r4 and r7, which may be what they may not be at other places.
func TestN3ArgNumbers(t *testing.T) {
	k, big := [4]int{1, 2, 3, 4}, []int{5, 6, 100, 1 << 32, math.MaxInt}
	for _, s := range []int{1, 2, 3, 4, 5, 9} {
		x := api.Table{Slots: s, Nodes: 2}
		m := probe.New(x)
		for _, pc := range pcs() {
			for _, r := range append([]int{s - 1, s, s + 1, s + 4}, big...) {
				e := api.OK
				if r >= s && (pc == 0 || pc == 1 || pc == 20) {
					e = api.ErrArg
				}
				if _, _, f := asked(t, x, m, at(pc, k, r, 1, 1)); f != e {
					t.Error(x, pc, r, f)
				}
			}
			for _, r := range append([]int{0, 1, 2, 3, 4}, big[:3]...) {
				e := api.OK
				if r > 3 && (pc == 1 || pc == 13) {
					e = api.ErrArg
				}
				if _, _, f := asked(t, x, m, at(pc, k, 0, 1, 1, r)); f != e {
					t.Error(x, pc, r, f)
				}
			}
		}
	}
}

// TestN3Bounds goes by nodes that there are not, whose places might be those of other words, and by what may not be written.
func TestN3Bounds(t *testing.T) {
	k := [4]int{1, 2, 3, 4}
	for _, x := range []api.Table{{Slots: 3, Nodes: 2}, {Slots: 9, Nodes: 1}, {Slots: 5}, {Slots: 40, Nodes: 30}} {
		m := probe.New(x)
		for _, n := range []int{x.Nodes, x.Nodes + 1, 50, 1 << 32, 1 << 62, 1<<62 - 1, math.MaxInt, -1, -2, -3, -1 << 32, -1 << 62, math.MinInt + 1, math.MinInt} {
			for r7 := range 4 {
				refused(t, x, m, at(1, k, 0, 0, n, r7), api.ErrBounds)
				refused(t, x, m, at(13, k, 0, n+1, 0, r7), api.ErrBounds)
			}
			refused(t, x, m, at(31, k, 0, n+1, 0), api.ErrBounds)
		}
		for _, h := range []int{x.Nodes + 1, x.Nodes + 2, 50, base - 1} {
			refused(t, x, m, at(11, k, 0, 0, h), api.ErrBounds)
			refused(t, x, m, at(11, k, 0, 0, 7*base+h), api.ErrBounds)
		}
		if _, _, e := asked(t, x, m, at(11, k, 0, 0, 7*base+x.Nodes)); e != api.OK {
			t.Error(x, e)
		}
	}
	x := api.Table{Slots: 1, Nodes: 1}
	for _, slot := range []int{0, 5} {
		m := with(probe.New(x), 0, slot)
		for _, n := range []int{most + 1, math.MaxInt, -most - 1, math.MinInt} {
			for r7 := range 4 {
				wrong := k
				wrong[r7] = n
				refused(t, x, m, at(13, wrong, 0, 1, 0, r7), api.ErrBounds)
				// That one alone may not be written.
				other := r7 ^ 1
				held(t, x, m, at(13, wrong, 0, 1, 0, other), with(m, 1+other, k[other]), filled(at(13, wrong, 0, 1, 0, other+1)), api.OK)
			}
			refused(t, x, m, at(20, k, 0, n), api.ErrBounds)
		}
	}
	m := probe.New(x)
	for _, n := range []int{most, -most} {
		held(t, x, m, at(20, k, 0, n), with(m, 0, n), done(at(20, k, 0, n), n-1), api.OK)
		held(t, x, m, at(13, [4]int{n, 2, 3, 4}, 0, 1), with(m, 1, n), at(13, [4]int{n, 2, 3, 4}, 0, 1, 0, 1), api.OK)
	}
}

// filled is a worker that has written a kid: behind the fourth one it is at another PC.
func filled(w api.Worker) api.Worker {
	if w.Regs[7] == 4 {
		w.PC = 20
	}
	return w
}

// TestN3Round goes by heads at the edges of what may be written, and by sums that go round.
func TestN3Round(t *testing.T) {
	x, k := api.Table{Slots: 1, Nodes: 1}, [4]int{1, 2, 3, 4}
	of := func(head int) []int { return []int{0, 9, 9, 9, 9, head, 3} }
	for _, y := range []struct{ head, first, want int }{
		{most - base, base - 1, most}, {most - base, 0, most - base + 1}, {0, most - base, most}, {-1, most - base, most}, {math.MinInt, 3, base + 3},
		{math.MaxInt, math.MaxInt, -1}, {math.MaxInt - 3, math.MaxInt - most + 1, -most}, {math.MaxInt - base, math.MaxInt, -base - 1}, {math.MaxInt - base, math.MaxInt - 7, -base - 8},
	} {
		_, h := partsModel(y.head)
		held(t, x, of(y.head), at(12, k, 0, 0, y.head, y.first), of(y.want), at(13, k, 0, h, y.head, 0), api.OK)
		held(t, x, of(7), at(12, k, 0, 0, y.head, y.first), of(7), at(10, k, 0, 0, y.head, y.first), api.OK)
		held(t, x, of(y.head), at(32, k, 0, y.first, y.head, 5), of(y.want), settled(at(32, k, 0, 0, y.head, 5)), api.OK)
		held(t, x, of(7), at(32, k, 0, y.first, y.head, 5), of(7), at(30, k, 0, y.first, y.head, 5), api.OK)
	}
	// What may not be written is told even where the head was changed meanwhile.
	for _, y := range []struct{ head, first int }{
		{most, 0}, {most, 1}, {most - base, base}, {0, most - base + 1}, {0, math.MaxInt}, {-1, math.MaxInt}, {math.MaxInt, 0}, {math.MaxInt, math.MaxInt - most}, {math.MaxInt - base, 0}, {math.MaxInt - base, base - 1}, {math.MaxInt - base, base}, {math.MaxInt - base, math.MaxInt - most},
	} {
		for _, there := range []int{y.head, 7} {
			refused(t, x, of(there), at(12, k, 0, 0, y.head, y.first), api.ErrBounds)
			refused(t, x, of(there), at(32, k, 0, y.first, y.head, 5), api.ErrBounds)
		}
	}
	// At PC 32 r5 may be below 0.
	held(t, x, of(math.MaxInt), at(32, k, 0, math.MinInt+5, math.MaxInt), of(5), settled(at(32, k, 0, 0, math.MaxInt)), api.OK)
	held(t, x, of(3), at(32, k, 0, -most-base, 3), of(-most), settled(at(32, k, 0, 0, 3)), api.OK)
	refused(t, x, of(3), at(32, k, 0, -most-base-1, 3), api.ErrBounds)
	refused(t, x, of(3), at(32, k, 0, math.MinInt, 3), api.ErrBounds)
}

// TestN3Edges goes by all numbers of the edges, at each PC.
func TestN3Edges(t *testing.T) {
	x := api.Table{Slots: 2, Nodes: 2}
	for _, a := range edges() {
		for _, b := range edges() {
			slot := hash.Slot(hash.Of([4]int{a, 1, b, 3}), 1, 2)
			for _, m := range [][]int{{a, a, 1, a, a, b, 3, 1, 3, 0, a, 2, 0}, with(probe.New(x), 1-slot, b), {0, 0, a, 1, b, 3, a, 1, b, 3, b, a, b}} {
				for _, pc := range pcs() {
					asked(t, x, m, at(pc, [4]int{a, 1, b, 3}, 1, 1, a, 2))
					asked(t, x, m, at(pc, [4]int{a, 1, b, 3}, 1, a, b, 0))
					asked(t, x, m, at(pc, [4]int{1, a, 2, 3}, a, 1, 1, b))
				}
			}
		}
	}
}

// TestN3Chance goes by words and workers that chance takes.
func TestN3Chance(t *testing.T) {
	next, seen, changed := chance(), map[api.Errno]int{}, map[int]int{}
	for range 200000 {
		x := api.Table{Slots: 1 + next(4), Nodes: next(4)}
		m := make([]int, x.Slots+5*x.Nodes+1)
		for i := range m {
			if m[i] = next(4) - 1; i >= x.Slots+4*x.Nodes {
				m[i] = next(3)*base + next(5)
			}
		}
		w := api.Worker{PC: pcs()[next(10)], Job: 3, Out: next(9), Done: next(40) == 0}
		for i := range w.Regs {
			w.Regs[i] = next(4) - next(8)/7
		}
		if next(2) == 0 {
			w.Regs[6] = m[x.Slots+4*x.Nodes]
		}
		switch next(40) {
		case 0:
			x.Slots = next(9) - 3
		case 1:
			x.Nodes = next(9) - 3
		case 2:
			w.PC = next(40) - 3
		case 3:
			w.Job = next(9)
		}
		n, v, e := asked(t, x, m, w)
		if seen[e]++; e == api.OK && (v.PC != w.PC || v.Done || !slices.Equal(m, n)) {
			changed[w.PC]++
		}
	}
	for _, e := range []api.Errno{api.OK, api.ErrArg, api.ErrBounds} {
		if seen[e] < 10000 {
			t.Error("seldom met", e, seen[e])
		}
	}
	for _, pc := range pcs() {
		if changed[pc] < 2000 {
			t.Error("seldom met: a step at", pc, changed[pc])
		}
	}
}

// TestN3Alone goes by what one worker does from its beginning to its end.
func TestN3Alone(t *testing.T) {
	put := []int{10, 11, 12, 13, 13, 13, 13, 20}
	same, other := []int{0, 1, 1, 1, 1}, []int{0, 1, 1, 1, 1} // the kids of the others are unlike in the last one alone
	x := api.Table{Slots: 4, Nodes: 3}
	a, b, c := kidsAt(3, 4, 0), kidsAt(3, 4, 1), kidsAt(3, 4, 2)
	m := probe.New(x)
	for i, y := range []struct {
		kids [4]int
		out  int
		by   []int
		in   []int // the nodes by their slots
	}{
		{a, 0, slices.Concat([]int{0}, put), []int{0}},
		{a, 0, same, []int{0}},
		{b, 1, slices.Concat(other, []int{0}, put), []int{1, 0}},
		{c, 2, slices.Concat(other, other, []int{0}, put), []int{1, 2, 0}},
		{b, 1, slices.Concat(other, same), []int{1, 2, 0}},
		{c, 2, slices.Concat(other, other, same), []int{1, 2, 0}},
		{kidsAt(3, 4, 3), -1, slices.Concat(other, other, other, []int{0, 10}), []int{1, 2, 0}},
		{kidsAt(2, 4, 4), -1, []int{0, 10}, []int{1, 2, 0}},
		{[4]int{31, 32, 0, 40}, -1, nil, []int{1, 2, 0}},
	} {
		n, w, by := walk(t, x, m, probe.Intern(y.kids))
		m = n
		if w.Out != y.out || y.by != nil && !slices.Equal(by, y.by) || !slices.Equal(probe.Nodes(x, m), y.in) {
			t.Error(i, w, by, m)
		}
		if k, is := probe.Kids(x, m, y.out); is != (y.out >= 0) || is && k != y.kids {
			t.Error(i, k, is)
		}
	}
	// All slots are taken: those of a table are gone through once, from any one on.
	x = api.Table{Slots: 3, Nodes: 9}
	m = probe.New(x)
	for n := range 3 {
		m, _, _ = walk(t, x, m, probe.Intern(kidsAt(1, 3, n)))
	}
	for slot := range 3 {
		n, w, by := walk(t, x, m, probe.Intern(kidsAt(slot, 3, 5)))
		if w.Out != -1 || w.Regs[4] != 3 || !slices.Equal(by, slices.Concat(other, other, other)) || !slices.Equal(m, n) {
			t.Error(slot, w, by)
		}
	}
}

// part lets a worker make so many steps.
func part(t *testing.T, x api.Table, m []int, w api.Worker, steps int) ([]int, api.Worker) {
	t.Helper()
	for range steps {
		var e api.Errno
		if m, w, e = asked(t, x, m, w); e != api.OK {
			t.Fatal(x, m, w, e)
		}
	}
	return m, w
}

// met is what comes of two workers at a table in which nothing is, of whom the first one makes so many steps, and the second one all of its own meanwhile: the words, the two, and the PCs that the first one came by then.
func met(t *testing.T, x api.Table, steps int, first, second [4]int) ([]int, api.Worker, api.Worker, []int) {
	t.Helper()
	m, v := part(t, x, probe.New(x), probe.Intern(first), steps)
	m, w, _ := walk(t, x, m, probe.Intern(second))
	m, v, by := walk(t, x, m, v)
	whole(t, x, m)
	return m, v, w, by
}

// TestN3Hand goes by steps of one hand, into which many workers are laid, as other packages go by it: they are those of Step.
func TestN3Hand(t *testing.T) {
	next := chance()
	for range 300 {
		x := api.Table{Slots: 1 + next(4), Nodes: next(5)}
		if next(9) == 0 {
			x.Slots = 0
		}
		m := slices.Concat(probe.New(x), make([]int, next(9)/8))
		words := slices.Clone(m)
		h := probe.HandAt(x, words)
		l := []api.Worker{probe.Intern(few(next)), probe.Intern(few(next)), at(next(33), few(next), next(4), next(4), next(4), next(4))}
		for range 40 {
			w := &l[next(len(l))]
			n, then, e := probe.Step(x, m, *w)
			if v, f := h.Step(*w); v != then || f != e || !slices.Equal(words, n) {
				t.Fatal(x, m, *w, then, e, v, f, words)
			}
			m, *w = n, then
		}
	}
}

// TestN3Two goes by all steps of one worker behind which another one may come between.
func TestN3Two(t *testing.T) {
	a, b := kidsAt(1, 3, 0), kidsAt(1, 3, 1)
	for steps := range 9 {
		// Both want the same: they come to the same node, and the other one is free again.
		x := api.Table{Slots: 3, Nodes: 2}
		m, v, w, by := met(t, x, steps, a, a)
		if v.Out != w.Out || v.Regs[5] != 0 || slices.Contains(by, 32) != (steps > 0) || !slices.Equal(probe.Nodes(x, m), []int{w.Out}) {
			t.Error(steps, v, w, by, m)
		}
		// They want unlike ones: each has its own.
		m, v, w, by = met(t, x, steps, a, b)
		if v.Out == w.Out || slices.Contains(by, 32) || len(probe.Nodes(x, m)) != 2 {
			t.Error(steps, v, w, by, m)
		}
		// There is one slot alone: it is taken meanwhile, and the node is given back.
		x = api.Table{Slots: 1, Nodes: 2}
		m, v, w, by = met(t, x, steps, a, b)
		if v.Out != -1 || w.Out < 0 || slices.Contains(by, 32) != (steps > 0) || !slices.Equal(probe.Nodes(x, m), []int{w.Out}) {
			t.Error(steps, v, w, by, m)
		}
		// There is one node alone: who takes it first has it.
		outs := []int{-1, 0}
		if steps >= 4 {
			outs = []int{0, -1}
		}
		if _, v, w, _ = met(t, api.Table{Slots: 3, Nodes: 1}, steps, a, b); !slices.Equal([]int{v.Out, w.Out}, outs) {
			t.Error(steps, v, w)
		}
	}
}

// TestN3Many goes by some workers, by turns that chance takes: no node is lost, whoever has it, and none stands there twice.
func TestN3Many(t *testing.T) {
	next, gave, quick := chance(), 0, 0
	for range 4000 {
		x := api.Table{Slots: 1 + next(5), Nodes: next(6)}
		m, l := probe.New(x), make([]api.Worker, 1+next(5))
		for i := range l {
			l[i] = probe.Intern(few(next))
		}
		for left := len(l); left > 0; {
			i := next(len(l))
			if l[i].Done {
				continue
			}
			was := l[i].PC
			var e api.Errno
			if m, l[i], e = asked(t, x, m, l[i]); e != api.OK {
				t.Fatal(x, m, l[i], e)
			}
			if was == 12 && l[i].PC == 10 {
				quick++
			}
			if l[i].Done {
				left--
				if was == 32 {
					gave++
				}
			}
			whole(t, x, m, had(l)...)
		}
		for i, w := range l {
			if k, is := probe.Kids(x, m, w.Out); is != (w.Out >= 0) || is && k != [4]int(w.Regs[:4]) {
				t.Fatal(x, m, w, k, is)
			}
			for _, v := range l[:i] {
				if same := [4]int(v.Regs[:4]) == [4]int(w.Regs[:4]); w.Out >= 0 && v.Out >= 0 && same != (v.Out == w.Out) {
					t.Fatal(x, m, v, w)
				}
			}
		}
	}
	if gave < 300 || quick < 300 {
		t.Error("seldom met", gave, quick)
	}
}

// had are the nodes that workers have taken, and neither put nor given back.
func had(l []api.Worker) []int {
	var out []int
	for _, w := range l {
		if w.Regs[5] != 0 && !w.Done {
			out = append(out, w.Regs[5]-1)
		}
	}
	return out
}

// TestN4Kids goes by nodes that there are, and by others.
func TestN4Kids(t *testing.T) {
	for _, x := range []api.Table{{Slots: 1}, {Slots: 1, Nodes: 1}, {Slots: 3, Nodes: 2}, {Slots: 4000, Nodes: 1000}, {Slots: 7, Nodes: 20}} {
		m := probe.New(x)
		for i := range m {
			m[i] = -3 + 5*i
		}
		was := slices.Clone(m)
		for _, n := range append(edges(), 7, 18, 19, 20, 21, 998, 999, 1000, 1001, 4000) {
			var want [4]int
			there := n >= 0 && n < x.Nodes
			for i := range want {
				if there {
					want[i] = -3 + 5*(x.Slots+4*n+i)
				}
			}
			if k, is := probe.Kids(x, m, n); is != there || k != want {
				t.Fatal(x, n, k, is)
			}
			for _, y := range []api.Table{{}, {Slots: x.Slots + 1, Nodes: x.Nodes}, {Slots: x.Slots - 1, Nodes: x.Nodes}, {Slots: x.Slots, Nodes: x.Nodes + 1}, {Slots: x.Slots, Nodes: x.Nodes - 1}, {Slots: -x.Slots, Nodes: x.Nodes}, {Slots: x.Slots, Nodes: -1}} {
				if k, is := probe.Kids(y, m, n); is || k != [4]int{} {
					t.Fatal(y, n, k, is)
				}
			}
			for _, words := range [][]int{nil, m[:len(m)-1], append(slices.Clone(m), 0)} {
				if k, is := probe.Kids(x, words, n); is || k != [4]int{} {
					t.Fatal(x, len(words), n, k, is)
				}
			}
		}
		if !slices.Equal(m, was) {
			t.Error("written into", x)
		}
	}
	for _, x := range []api.Table{{Slots: 4001, Nodes: 1}, {Slots: 0, Nodes: 1}, {Slots: 1, Nodes: 1001}, {Slots: 7, Nodes: -1}} {
		if k, is := probe.Kids(x, make([]int, x.Slots+5*x.Nodes+1), 0); is || k != [4]int{} {
			t.Error(x, k, is)
		}
	}
}

// TestN4Nodes goes by slots of any numbers.
func TestN4Nodes(t *testing.T) {
	x := api.Table{Slots: 9, Nodes: 1}
	m := []int{0, 3, -1, 1, math.MaxInt, 3, math.MinInt, 2, 1, 9, 9, 9, 9, 1, 7}
	was := slices.Clone(m)
	if got := probe.Nodes(x, m); !slices.Equal(got, []int{2, 0, math.MaxInt - 1, 2, 1, 0}) || !slices.Equal(m, was) {
		t.Error(got, m)
	}
	// What stands behind the slots is no slot, and the last one is one.
	if got := probe.Nodes(api.Table{Slots: 4, Nodes: 2}, m); !slices.Equal(got, []int{2, 0}) {
		t.Error(got)
	}
	if got := probe.Nodes(api.Table{Slots: 14}, m); !slices.Equal(got, []int{2, 0, math.MaxInt - 1, 2, 1, 0, 8, 8, 8, 8, 0}) {
		t.Error(got)
	}
	for _, y := range []api.Table{{}, {Slots: 8, Nodes: 1}, {Slots: 10, Nodes: 1}, {Slots: 9}, {Slots: 9, Nodes: 2}, {Slots: 19, Nodes: -1}, {Slots: -1, Nodes: 3}} {
		if got := probe.Nodes(y, m); len(got) > 0 {
			t.Error(y, got)
		}
	}
	for _, y := range []api.Table{{Slots: 4001}, {Slots: 1, Nodes: 1001}, {Slots: 20, Nodes: -2}} {
		if got := probe.Nodes(y, slices.Repeat([]int{1}, y.Slots+5*y.Nodes+1)); len(got) > 0 {
			t.Error(y, len(got))
		}
	}
	for _, words := range [][]int{nil, m[:14], append(slices.Clone(m), 1)} {
		if got := probe.Nodes(x, words); len(got) > 0 {
			t.Error(len(words), got)
		}
	}
	full := api.Table{Slots: slots, Nodes: nodes}
	if got := probe.Nodes(full, slices.Repeat([]int{4}, 9001)); !slices.Equal(got, slices.Repeat([]int{3}, slots)) {
		t.Error(len(got))
	}
}

// TestN5 goes by workers one behind the other, each alone, till nothing is left.
func TestN5(t *testing.T) {
	next, none := chance(), 0
	for range 1000 {
		x := api.Table{Slots: 1 + next(9), Nodes: next(12)}
		m, known := probe.New(x), map[[4]int]int{}
		for range 25 {
			k := few(next)
			first, was := known[k]
			n, w, by := walk(t, x, m, probe.Intern(k))
			full := len(known) == min(x.Slots, x.Nodes)
			switch {
			case len(by) > 5*x.Slots+9:
				t.Fatal(x, m, w, len(by))
			case was && w.Out != first, !was && full && w.Out != -1, !was && !full && w.Out != len(known):
				t.Fatal(x, m, w, known)
			case was && !slices.Equal(m, n), w.Out < 0 && !slices.Equal(m, n):
				t.Fatal("changed", x, m, n)
			}
			if m = n; w.Out < 0 {
				none++
				continue
			}
			known[k] = w.Out
			if kids, is := probe.Kids(x, m, w.Out); !is || kids != k {
				t.Fatal(x, m, w, kids)
			}
			whole(t, x, m)
		}
	}
	if none < 1000 {
		t.Error("seldom met: one that ends with nothing", none)
	}
}

// TestN5Steps goes by tables of which each slot takes all of its steps.
func TestN5Steps(t *testing.T) {
	for _, s := range []int{1, 2, 5, 40} {
		x := api.Table{Slots: s, Nodes: s + 1}
		m := probe.New(x)
		for n := range s {
			var by []int
			if m, _, by = walk(t, x, m, probe.Intern(kidsAt(s/2, s, n))); len(by) != 5*n+9 {
				t.Error(x, n, by)
			}
		}
		if _, w, by := walk(t, x, m, probe.Intern(kidsAt(s/2, s, s))); w.Out != -1 || len(by) != 5*s {
			t.Error(x, w, by)
		}
	}
}

// TestN5Great goes by the greatest table that there may be.
func TestN5Great(t *testing.T) {
	x := api.Table{Slots: slots, Nodes: nodes}
	m := probe.New(x)
	var out api.Worker
	for n := range nodes + 1 {
		steps, w, e := 0, probe.Intern([4]int{n, -n, 7, n % 3}), api.OK
		for ; !w.Done; steps++ {
			if m, w, e = probe.Step(x, m, w); e != api.OK || steps > 5*slots+9 {
				t.Fatal(n, w, e)
			}
		}
		if out = w; n < nodes && w.Out != n {
			t.Fatal(n, w)
		}
	}
	if out.Out != -1 || len(probe.Nodes(x, m)) != nodes {
		t.Error(out)
	}
	for n := range nodes {
		if k, is := probe.Kids(x, m, n); !is || k != [4]int{n, -n, 7, n % 3} {
			t.Fatal(n, k, is)
		}
	}
	whole(t, x, m)
}

// spoil writes into a list, and into its spare room.
func spoil(l []int) {
	l = l[:cap(l)]
	for i := range l {
		l[i] = -99
	}
}

// TestR3 writes into all that comes out, and looks whether what is handed in, and what else came out, stays as it was.
func TestR3(t *testing.T) {
	x, k := api.Table{Slots: 3, Nodes: 2}, kidsAt(2, 3, 0)
	room := append(rowsWords(k), 77, 78)
	m, was := room[:14], slices.Clone(room)
	for _, y := range rows(m, k) {
		first, _, e := probe.Step(x, m, y.w)
		second, _, f := probe.Step(x, m, y.w)
		keep := slices.Clone(second)
		if e != f {
			t.Error(y.w, e, f)
		}
		if spoil(first); !slices.Equal(room, was) || !slices.Equal(second, keep) {
			t.Error("shared", y.w, room, second)
		}
	}
	for s := 1; s < 40; s++ {
		x := api.Table{Slots: s, Nodes: s / 2}
		first, second := probe.New(x), probe.New(x)
		if spoil(first); !slices.Equal(second, newModel(x)) || !slices.Equal(probe.New(x), newModel(x)) {
			t.Error("shared by New", x, second)
		}
		words := append(slices.Repeat([]int{5}, len(second)), 77, 78)
		given := slices.Clone(words)
		first, second = probe.Nodes(x, words[:len(words)-2]), probe.Nodes(x, words[:len(words)-2])
		if spoil(first); !slices.Equal(second, slices.Repeat([]int{4}, s)) || !slices.Equal(words, given) {
			t.Error("shared by Nodes", x, second, words)
		}
	}
}

// TestR4 holds that what is answered hangs on what is asked alone, not on what was asked ahead of it.
func TestR4(t *testing.T) {
	x, k := api.Table{Slots: 3, Nodes: 2}, kidsAt(2, 3, 0)
	m := rowsWords(k)
	all := rows(m, k)
	for i := range all {
		y := all[(i*7+5)%len(all)]
		if n, w, e := probe.Step(x, m, y.w); !slices.Equal(n, y.m) || w != y.then || e != api.OK {
			t.Error(y, n, w, e)
		}
	}
}
