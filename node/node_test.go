package node_test

import (
	"math"
	"math/big"
	"slices"
	"testing"

	"gosper/api"
	"gosper/node"
)

const (
	most  = 1<<62 - 1
	rooms = 100000
)

// of are four kids.
func of(a, b, c, d int) [4]int { return [4]int{a, b, c, d} }

// four are four times the same kid.
func four(n int) [4]int { return of(n, n, n, n) }

// cells are the nodes that each store has.
func cells() []api.Node { return []api.Node{{}, {Pop: 1}} }

// store is one of the two cells, and of nodes that have some kids, as the model has these nodes.
func store(room int, kids ...[4]int) api.Store {
	s := api.Store{Nodes: cells(), Room: room}
	for _, k := range kids {
		s.Nodes = append(s.Nodes, over(s, k))
	}
	return s
}

// over is the node of some kids. It sums in numbers of any size.
func over(s api.Store, kids [4]int) api.Node {
	pop := new(big.Int)
	for _, k := range kids {
		pop.Add(pop, big.NewInt(int64(s.Nodes[k].Pop)))
	}
	if pop.Cmp(big.NewInt(most)) > 0 {
		pop.SetInt64(most)
	}
	return api.Node{Level: s.Nodes[kids[0]].Level + 1, Kids: kids, Pop: int(pop.Int64())}
}

// right is what Right should answer: it holds each node against each other one.
func right(s api.Store) bool {
	if s.Room < 2 || s.Room > rooms || len(s.Nodes) > s.Room || len(s.Nodes) < 2 || !slices.Equal(s.Nodes[:2], cells()) {
		return false
	}
	for at := 2; at < len(s.Nodes); at++ {
		n := s.Nodes[at]
		for _, k := range n.Kids {
			if k < 0 || k >= at || s.Nodes[k].Level != s.Nodes[n.Kids[0]].Level {
				return false
			}
		}
		if n.Level < 1 || n.Level > 42 || n != over(s, n.Kids) || find(s, n.Kids) != at {
			return false
		}
	}
	return true
}

// find is where the node of some kids is; -1: nowhere.
func find(s api.Store, kids [4]int) int {
	for at := 2; at < len(s.Nodes); at++ {
		if s.Nodes[at].Kids == kids {
			return at
		}
	}
	return -1
}

// internModel is what Intern should answer of a right store.
func internModel(s api.Store, kids [4]int) (api.Store, int, api.Errno) {
	for _, k := range kids {
		if k < 0 || k >= len(s.Nodes) {
			return s, 0, api.ErrArg
		}
	}
	for _, k := range kids {
		if l := s.Nodes[k].Level; l == 42 || l != s.Nodes[kids[0]].Level {
			return s, 0, api.ErrArg
		}
	}
	if at := find(s, kids); at >= 0 {
		return s, at, api.OK
	}
	if len(s.Nodes) == s.Room {
		return s, 0, api.ErrFull
	}
	out := copied(s)
	out.Nodes = append(out.Nodes, over(s, kids))
	return out, len(s.Nodes), api.OK
}

// emptyModel is what Empty should answer of a right store.
func emptyModel(s api.Store, level int) (api.Store, int, api.Errno) {
	if level < 0 || level > 42 {
		return s, 0, api.ErrArg
	}
	if level == 0 {
		return s, 0, api.OK
	}
	out, n, e := emptyModel(s, level-1)
	if e == api.OK {
		out, n, e = internModel(out, four(n))
	}
	if e != api.OK {
		return s, 0, e
	}
	return out, n, api.OK
}

// liveModel is what Live should answer of a right store. It goes down from the roots.
func liveModel(s api.Store, roots []int) (api.Store, []int, api.Errno) {
	seen := map[int]int{0: 0, 1: 1}
	for _, n := range roots {
		if n < 0 || n >= len(s.Nodes) {
			return s, nil, api.ErrArg
		}
	}
	var down func(n int)
	down = func(n int) {
		if _, is := seen[n]; is {
			return
		}
		seen[n] = -1
		for _, k := range s.Nodes[n].Kids {
			down(k)
		}
	}
	for _, n := range roots {
		down(n)
	}
	out := api.Store{Nodes: cells(), Room: s.Room}
	for at := 2; at < len(s.Nodes); at++ {
		if _, is := seen[at]; !is {
			continue
		}
		n := s.Nodes[at]
		k := n.Kids
		n.Kids = of(seen[k[0]], seen[k[1]], seen[k[2]], seen[k[3]])
		seen[at] = len(out.Nodes)
		out.Nodes = append(out.Nodes, n)
	}
	var found []int
	for _, n := range roots {
		found = append(found, seen[n])
	}
	return out, found, api.OK
}

func same(a, b api.Store) bool { return a.Room == b.Room && slices.Equal(a.Nodes, b.Nodes) }

func copied(s api.Store) api.Store {
	return api.Store{Nodes: slices.Clone(s.Nodes), Room: s.Room}
}

// short is the beginning of a store, for a test's remark.
func short(s api.Store) api.Store {
	return api.Store{Nodes: s.Nodes[:min(len(s.Nodes), 9)], Room: s.Room}
}

// chance gives numbers below others, always the same ones.
func chance() func(int) int {
	x := 1
	return func(below int) int {
		x = x*6364136223846793005 + 1442695040888963407
		return int(uint(x) >> 33 % uint(below))
	}
}

// quarters are four kids of one level that chance takes, rather the later ones.
func quarters(next func(int) int, s api.Store) [4]int {
	first := max(next(len(s.Nodes)), next(len(s.Nodes)))
	kids := four(first)
	for i := 1; i < 4; {
		if n := next(len(s.Nodes)); s.Nodes[n].Level == s.Nodes[first].Level {
			kids[i] = n
			i++
		}
	}
	return kids
}

// some is a right store of so many nodes that chance takes.
func some(next func(int) int, n, room int) api.Store {
	s := store(room)
	for len(s.Nodes) < n {
		s, _, _ = internModel(s, quarters(next, s))
	}
	return s
}

// towers is a store that has of each level from 1 to 42 the squares in which all is dead, all alive, all but one, and all but two; and where they are, by level.
func towers(room int) (api.Store, [43][4]int) {
	s := store(room)
	var at [43][4]int
	at[0] = of(0, 1, 0, 0)
	put := func(kids [4]int) int {
		var n int
		s, n, _ = internModel(s, kids)
		return n
	}
	at[1] = of(put(four(0)), put(four(1)), put(of(0, 1, 1, 1)), put(of(0, 1, 1, 0)))
	for level := 2; level <= 42; level++ {
		b := at[level-1]
		at[level] = of(put(four(b[0])), put(four(b[1])), put(of(b[2], b[1], b[1], b[1])), put(of(b[1], b[3], b[1], b[1])))
	}
	return s, at
}

// answered holds an answer against what it should be, and that the store that was handed in is as it was.
func answered(t *testing.T, what any, s, was, got api.Store, n int, e api.Errno, want api.Store, at int, f api.Errno) {
	t.Helper()
	if n != at || e != f || !same(got, want) {
		t.Errorf("%v in %v: %v %d %d, not %v %d %d", what, short(was), short(got), n, e, short(want), at, f)
	}
	if !same(s, was) {
		t.Errorf("%v in %v: written into: %v", what, short(was), short(s))
	}
}

func interns(t *testing.T, s api.Store, kids [4]int) {
	t.Helper()
	was := copied(s)
	got, n, e := node.Intern(s, kids)
	want, at, f := internModel(was, kids)
	answered(t, kids, s, was, got, n, e, want, at, f)
}

func empties(t *testing.T, s api.Store, level int) {
	t.Helper()
	was := copied(s)
	got, n, e := node.Empty(s, level)
	want, at, f := emptyModel(was, level)
	answered(t, level, s, was, got, n, e, want, at, f)
}

func lives(t *testing.T, s api.Store, roots ...int) {
	t.Helper()
	was := copied(s)
	handed := slices.Clone(roots)
	got, l, e := node.Live(s, handed...)
	want, found, f := liveModel(was, roots)
	answered(t, roots, s, was, got, len(l), e, want, len(found), f)
	if !slices.Equal(l, found) || !slices.Equal(handed, roots) {
		t.Errorf("%v in %v: %v, not %v", handed, short(was), l, found)
	}
}

// refused holds that a store is not right, and that no call takes it.
func refused(t *testing.T, what any, s api.Store) {
	t.Helper()
	was := copied(s)
	if node.Right(s) {
		t.Errorf("%v: right: %v", what, short(s))
	}
	for _, kids := range [][4]int{four(0), of(0, 1, 0, 0), four(-1), four(99)} {
		got, n, e := node.Intern(s, kids)
		answered(t, what, s, was, got, n, e, was, 0, api.ErrArg)
	}
	for _, level := range []int{0, 1, 42, 43} {
		got, n, e := node.Empty(s, level)
		answered(t, what, s, was, got, n, e, was, 0, api.ErrArg)
	}
	for _, roots := range [][]int{nil, {0}, {1, 2}, {-1}, {99}} {
		got, l, e := node.Live(s, roots...)
		answered(t, what, s, was, got, len(l), e, was, 0, api.ErrArg)
	}
}

// taken holds that a store is right, and that each call takes it.
func taken(t *testing.T, what any, s api.Store) {
	t.Helper()
	if !node.Right(s) {
		t.Errorf("%v: not right: %v", what, short(s))
	}
	empties(t, s, 0)
	lives(t, s, len(s.Nodes)-1)
}

func TestF1(t *testing.T) {
	for _, room := range []int{2, 3, 4, 9, 1000, 65536, 99999, 100000} {
		s := node.New(room)
		if !same(s, api.Store{Nodes: []api.Node{{Level: 0, Kids: four(0), Pop: 0}, {Level: 0, Kids: four(0), Pop: 1}}, Room: room}) || !node.Right(s) {
			t.Error(room, s)
		}
	}
	for _, room := range []int{math.MinInt, -100000, -2, -1, 0, 1, 100001, 1 << 20, 1<<32 + 9, math.MaxInt} {
		if s := node.New(room); !same(s, api.Store{}) {
			t.Error(room, s)
		}
		refused(t, room, node.New(room))
	}
}

func TestF2Room(t *testing.T) {
	kids := [][4]int{four(0), of(0, 1, 0, 0), of(2, 3, 3, 2), four(4)}
	for n := range len(kids) + 1 {
		for room := -1; room < 10; room++ {
			if s := store(room, kids[:n]...); n+2 <= room {
				taken(t, room, s)
			} else {
				refused(t, room, s)
			}
		}
	}
	for _, room := range []int{99999, 100000} {
		taken(t, room, store(room, kids...))
	}
	for _, room := range []int{math.MinInt, -9, 100001, 1<<32 + 9, math.MaxInt} {
		refused(t, room, store(room, kids...))
	}
}

// TestF2Cells goes by what stands where the two cells should.
func TestF2Cells(t *testing.T) {
	for i, nodes := range [][]api.Node{
		nil, {}, {{}}, {{Pop: 1}}, {{}, {}}, {{Pop: 1}, {Pop: 1}}, {{Pop: 1}, {}},
		{{}, {Pop: 2}}, {{}, {Pop: -1}}, {{Pop: -1}, {Pop: 1}}, {{Pop: 2}, {Pop: 1}},
		{{Level: 1}, {Pop: 1}}, {{}, {Level: 1, Pop: 1}}, {{Level: -1}, {Level: -1, Pop: 1}}, {{Level: 1}, {Level: 1, Pop: 1}},
		{{Kids: of(0, 0, 0, 1)}, {Pop: 1}}, {{}, {Pop: 1, Kids: of(1, 0, 0, 0)}}, {{Kids: four(-1)}, {Pop: 1, Kids: four(-1)}}, {{}, {Pop: 1, Kids: of(0, -1, 0, 0)}},
		{{}, {Level: 1}}, {{}, {Level: 1, Kids: of(0, 0, 0, 1), Pop: 1}}, {{}, {Level: 1}, {Pop: 1}}, {{Level: 1}, {}, {Pop: 1}},
	} {
		refused(t, i, api.Store{Nodes: nodes, Room: 9})
	}
}

// TestF2Node goes by all that may stand behind some nodes, near what is right.
func TestF2Node(t *testing.T) {
	for _, kids := range [][][4]int{{}, {four(0)}, {four(0), of(0, 1, 1, 1)}, {of(1, 0, 0, 0), four(2)}} {
		s := store(7, kids...)
		n := len(s.Nodes)
		seen := 0
		for code := range (n + 2) * (n + 2) * (n + 2) * (n + 2) {
			k := of(code%(n+2)-1, code/(n+2)%(n+2)-1, code/(n+2)/(n+2)%(n+2)-1, code/(n+2)/(n+2)/(n+2)-1)
			for level := -1; level <= 4; level++ {
				for pop := -1; pop <= 13; pop++ {
					x := copied(s)
					x.Nodes = append(x.Nodes, api.Node{Level: level, Kids: k, Pop: pop})
					want := right(x)
					if want {
						seen++
					}
					if got := node.Right(x); got != want {
						t.Fatalf("%v: %t", x.Nodes, got)
					}
				}
			}
		}
		if seen == 0 {
			t.Error("never right", kids)
		}
	}
}

// TestF2Twice goes by kids that stand there twice: those of the cells alone may.
func TestF2Twice(t *testing.T) {
	kids := [][4]int{four(0), of(0, 0, 0, 1), of(0, 0, 1, 0), of(2, 3, 3, 2), of(3, 2, 2, 2), four(5)}
	taken(t, "once", store(20, kids...))
	for i, k := range kids {
		refused(t, i, store(20, append(slices.Clone(kids), k)...))
	}
	refused(t, "next to each other", store(20, four(1), four(1)))
	refused(t, "dead, twice", store(20, four(0), four(0)))
	refused(t, "thrice", store(20, four(1), four(1), four(1)))
	refused(t, "then used", store(20, four(0), four(0), of(2, 3, 2, 3)))
	// In another order they are other kids.
	taken(t, "turned", store(20, of(1, 0, 0, 0), of(0, 1, 0, 0), of(0, 0, 1, 0), of(0, 0, 0, 1), of(2, 3, 4, 5), of(5, 4, 3, 2)))
}

// TestF2Kids goes by kids that are no places ahead, or of levels of their own.
func TestF2Kids(t *testing.T) {
	base := store(20, four(0), of(0, 1, 1, 0), of(2, 2, 3, 3), of(3, 3, 2, 2), four(4))
	taken(t, "base", base)
	for at := 2; at < len(base.Nodes); at++ {
		for i := range 4 {
			for _, k := range []int{at, at + 1, len(base.Nodes) - 1, len(base.Nodes), 19, 20, 21, -1, -2, math.MinInt, math.MaxInt, rooms, 1<<32 + base.Nodes[at].Kids[i]} {
				if k >= 0 && k < at {
					continue
				}
				s := copied(base)
				s.Nodes[at].Kids[i] = k
				refused(t, []int{at, i, k}, s)
			}
		}
	}
	for i, kids := range [][4]int{of(0, 0, 0, 2), of(2, 0, 0, 0), of(4, 4, 4, 2), of(2, 4, 4, 4), of(2, 3, 1, 2), of(4, 5, 6, 4), of(0, 1, 2, 4)} {
		for level := range 5 {
			for pop := range 20 {
				s := copied(base)
				s.Nodes = append(s.Nodes, api.Node{Level: level, Kids: kids, Pop: pop})
				if node.Right(s) {
					t.Error(i, level, pop)
				}
			}
		}
	}
}

// TestF2Level goes by levels up to 42.
func TestF2Level(t *testing.T) {
	s, at := towers(200)
	taken(t, "towers", s)
	top := at[42]
	for i, kids := range [][4]int{four(top[0]), four(top[1]), of(top[0], top[1], top[2], top[3])} {
		for _, level := range []int{0, 1, 42, 43} {
			x := copied(s)
			x.Nodes = append(x.Nodes, over(s, kids))
			x.Nodes[len(x.Nodes)-1].Level = level
			refused(t, i, x)
		}
	}
	for n := range s.Nodes {
		for _, level := range []int{s.Nodes[n].Level - 1, s.Nodes[n].Level + 1, -s.Nodes[n].Level - 1, s.Nodes[n].Level + 1<<32, math.MinInt, math.MaxInt} {
			x := copied(s)
			x.Nodes[n].Level = level
			if node.Right(x) {
				t.Error(n, level)
			}
		}
	}
}

// TestF2Pop goes by sums that are next to MaxCount, and by those that would go round.
func TestF2Pop(t *testing.T) {
	s, at := towers(400)
	for _, x := range []struct{ n, pop int }{
		{at[1][1], 4}, {at[1][2], 3}, {at[1][3], 2}, {at[30][1], 1 << 60}, {at[30][2], 1<<60 - 1}, {at[30][3], 1<<60 - 2},
		{at[31][0], 0}, {at[31][1], most}, {at[31][2], most}, {at[31][3], most - 1}, // 2^62, and 1 and 2 less
		{at[32][1], most}, {at[32][2], most}, {at[32][3], most}, {at[42][0], 0}, {at[42][1], most}, {at[42][3], most},
	} {
		if s.Nodes[x.n].Pop != x.pop {
			t.Error("the model", x.n, s.Nodes[x.n].Pop, x.pop)
		}
	}
	low, high := at[31], at[35]
	for _, kids := range [][4]int{
		of(low[0], low[0], low[0], low[1]), of(low[0], low[0], low[3], low[0]), of(low[2], low[0], low[0], low[0]), of(low[3], low[3], low[0], low[0]), of(low[2], low[2], low[2], low[2]),
		of(high[1], high[0], high[0], high[0]), of(high[1], high[1], high[0], high[0]), of(high[0], high[1], high[2], high[3]), of(high[3], high[1], high[3], high[1]),
	} {
		interns(t, s, kids)
		s, _, _ = internModel(s, kids)
	}
	taken(t, "all", s)
	for n := range s.Nodes {
		pop := s.Nodes[n].Pop
		for _, wrong := range []int{pop - 1, pop + 1, -pop - 1, pop ^ 1<<62, pop ^ math.MinInt, most + 1, math.MaxInt, math.MinInt, -4, -8, 1<<63 - 3} {
			x := copied(s)
			x.Nodes[n].Pop = wrong
			if node.Right(x) {
				t.Error(n, pop, wrong)
			}
		}
	}
}

// TestF2Model holds stores with a fault, or none, against the model.
func TestF2Model(t *testing.T) {
	next := chance()
	seen := map[bool]int{}
	for range 8000 {
		n := 2 + next(20)
		s := some(next, n, n+next(3))
		taken(t, "some", s)
		at := next(len(s.Nodes))
		switch next(7) {
		case 0:
			s.Nodes[at].Level += next(3) - 1
		case 1, 2:
			s.Nodes[at].Kids[next(4)] = next(n+2) - 1
		case 3:
			s.Nodes[at].Kids[next(4)] = next(n+2) - 1
			s.Nodes[at].Pop = next(9)
		case 4:
			s.Nodes[at].Pop += next(3) - 1
		case 5:
			s.Nodes = slices.Delete(s.Nodes, at, at+1)
		case 6:
			s.Nodes[at], s.Nodes[next(n)] = s.Nodes[next(n)], s.Nodes[at]
		}
		want := right(s)
		seen[want]++
		if want {
			taken(t, "changed", s)
		} else {
			refused(t, "changed", s)
		}
	}
	if seen[true] < 300 || seen[false] < 300 {
		t.Error("seldom met", seen)
	}
}

func TestF3Example(t *testing.T) {
	s, n, e := node.Intern(node.New(9), of(0, 1, 0, 0))
	if n != 2 || e != api.OK || !same(s, api.Store{Nodes: []api.Node{{}, {Pop: 1}, {Level: 1, Kids: of(0, 1, 0, 0), Pop: 1}}, Room: 9}) {
		t.Error(s, n, e)
	}
}

// TestF3All goes by all kids of some stores, those that are no places of it among them, with room and without.
func TestF3All(t *testing.T) {
	for _, kids := range [][][4]int{
		{}, {four(0)}, {of(0, 1, 0, 0), of(1, 0, 0, 0)}, {four(0), of(0, 1, 1, 0), of(2, 3, 3, 2)}, {of(0, 1, 0, 0), four(0), of(2, 3, 3, 2), of(3, 3, 3, 2)},
	} {
		n := len(kids) + 2
		for room := n; room <= n+2; room++ {
			s := store(room, kids...)
			for code := range (n + 2) * (n + 2) * (n + 2) * (n + 2) {
				interns(t, s, of(code%(n+2)-1, code/(n+2)%(n+2)-1, code/(n+2)/(n+2)%(n+2)-1, code/(n+2)/(n+2)/(n+2)-1))
			}
		}
	}
}

// TestF3Wrong goes by kids that may not be, each ahead of there being no room.
func TestF3Wrong(t *testing.T) {
	s, at := towers(500)
	full := copied(s)
	full.Room = len(s.Nodes)
	top, below := at[42], at[41]
	for _, kids := range [][4]int{
		four(top[0]), four(top[1]), of(top[0], top[1], top[2], top[3]), of(below[0], below[0], below[0], top[0]), of(top[0], below[0], below[0], below[0]),
		of(0, 0, 0, at[1][0]), of(at[1][0], 0, 0, 0), of(at[3][0], at[3][0], at[2][0], at[3][0]), of(at[3][0], at[4][0], at[3][0], at[3][0]),
		four(-1), four(len(s.Nodes)), of(0, 0, 0, len(s.Nodes)), of(0, -1, 0, 0), of(0, 0, len(s.Nodes)+1, 0), four(math.MinInt), four(math.MaxInt), of(math.MinInt, 0, 0, math.MaxInt), of(1<<32, 0, 0, 0), of(499, 0, 0, 0), of(500, 0, 0, 0),
	} {
		for _, x := range []api.Store{s, full} {
			got, n, e := node.Intern(x, kids)
			answered(t, kids, x, copied(x), got, n, e, x, 0, api.ErrArg)
		}
	}
	for i, x := range []api.Store{s, full} {
		interns(t, x, of(below[0], below[1], below[2], below[3])) // the last level that may be
		interns(t, x, four(below[0]))                             // what is there, is found without room
		if _, n, e := node.Intern(x, four(below[0])); n != top[0] || e != api.OK {
			t.Error(i, n, e)
		}
		if _, n, e := node.Intern(x, of(below[0], below[1], below[2], below[3])); i == 0 && (n != len(s.Nodes) || e != api.OK) || i == 1 && (n != 0 || e != api.ErrFull) {
			t.Error(i, n, e)
		}
	}
}

// TestF3Model goes by stores that grow till they are full.
func TestF3Model(t *testing.T) {
	next := chance()
	seen := map[api.Errno]int{}
	for range 60 {
		s := node.New(2 + next(60))
		for range 120 {
			kids := quarters(next, s)
			if next(9) == 0 {
				kids[next(4)] = next(len(s.Nodes)+2) - 1
			}
			interns(t, s, kids)
			var e api.Errno
			s, _, e = node.Intern(s, kids)
			seen[e]++
			if !node.Right(s) {
				t.Fatal(s)
			}
		}
	}
	for _, e := range []api.Errno{api.OK, api.ErrArg, api.ErrFull} {
		if seen[e] < 100 {
			t.Error("seldom met", e, seen[e])
		}
	}
}

func TestF4(t *testing.T) {
	s, n, e := node.Empty(node.New(9), 3)
	want := []api.Node{{}, {Pop: 1}, {Level: 1}, {Level: 2, Kids: four(2)}, {Level: 3, Kids: four(3)}}
	if n != 4 || e != api.OK || !same(s, api.Store{Nodes: want, Room: 9}) {
		t.Error(s, n, e)
	}
	if again, n, e := node.Empty(s, 2); n != 3 || e != api.OK || !same(again, s) {
		t.Error(again, n, e)
	}
	if s, n, e := node.Empty(node.New(2), 0); n != 0 || e != api.OK || !same(s, node.New(2)) {
		t.Error(s, n, e)
	}
	top, n, e := node.Empty(node.New(44), 42)
	if n != 43 || e != api.OK || len(top.Nodes) != 44 || top.Nodes[43] != (api.Node{Level: 42, Kids: four(42)}) || !node.Right(top) {
		t.Error(n, e, len(top.Nodes))
	}
	if s, n, e := node.Empty(node.New(43), 42); n != 0 || e != api.ErrFull || !same(s, node.New(43)) {
		t.Error(s, n, e)
	}
}

// TestF4All goes by all levels, of stores of which some have empty squares, with too little room, just enough, and more.
func TestF4All(t *testing.T) {
	for _, kids := range [][][4]int{
		{}, {four(1)}, {four(0)}, {of(0, 1, 0, 0), four(0)}, {four(0), four(1), four(3), of(2, 3, 3, 2), four(2), four(4), four(6)},
		{four(0), four(2), four(3), four(1), four(4), four(5)},
	} {
		for room := len(kids) + 2; room < 50; room++ {
			s := store(room, kids...)
			for level := -2; level <= 45; level++ {
				empties(t, s, level)
			}
		}
	}
	for _, level := range []int{math.MinInt, -1 << 32, -1, 43, 44, 1 << 32, 1<<32 + 1, math.MaxInt} {
		for _, room := range []int{2, 9, rooms} {
			s := store(room)
			got, n, e := node.Empty(s, level)
			answered(t, level, s, store(room), got, n, e, s, 0, api.ErrArg)
		}
	}
}

func TestF5(t *testing.T) {
	s := store(12, four(0), of(0, 1, 0, 0), four(1), of(2, 3, 3, 2), of(3, 3, 3, 3), of(4, 4, 4, 4), of(5, 5, 5, 6))
	for _, x := range []struct {
		roots []int
		want  [][4]int
		found []int
	}{
		{nil, nil, nil},
		{[]int{0}, nil, []int{0}},
		{[]int{1, 0, 1}, nil, []int{1, 0, 1}},
		{[]int{2}, [][4]int{four(0)}, []int{2}},
		{[]int{3}, [][4]int{of(0, 1, 0, 0)}, []int{2}},
		{[]int{4}, [][4]int{four(1)}, []int{2}},
		{[]int{4, 2}, [][4]int{four(0), four(1)}, []int{3, 2}}, // in their order, not in that of the roots
		{[]int{4, 0, 2, 4, 1}, [][4]int{four(0), four(1)}, []int{3, 0, 2, 3, 1}},
		{[]int{6}, [][4]int{of(0, 1, 0, 0), four(2)}, []int{3}},
		{[]int{6, 3}, [][4]int{of(0, 1, 0, 0), four(2)}, []int{3, 2}},
		{[]int{7}, [][4]int{four(1), four(2)}, []int{3}},
		{[]int{7, 6}, [][4]int{of(0, 1, 0, 0), four(1), four(2), four(3)}, []int{5, 4}},
		{[]int{8}, [][4]int{four(0), of(0, 1, 0, 0), of(2, 3, 3, 2), four(3), of(4, 4, 4, 5)}, []int{6}},
		{[]int{8, 7}, [][4]int{four(0), of(0, 1, 0, 0), four(1), of(2, 3, 3, 2), four(3), four(4), of(5, 5, 5, 6)}, []int{8, 7}},
	} {
		got, l, e := node.Live(s, x.roots...)
		if e != api.OK || !same(got, store(12, x.want...)) || !slices.Equal(l, x.found) || !node.Right(got) {
			t.Errorf("%v: %v %v %d", x.roots, got, l, e)
		}
	}
	for _, roots := range [][]int{{-1}, {9}, {10}, {11}, {12}, {0, 9}, {9, 0}, {2, -1, 3}, {8, 8, 8, 9}, {math.MinInt}, {math.MaxInt}, {1 << 32}} {
		got, l, e := node.Live(s, roots...)
		answered(t, roots, s, copied(s), got, len(l), e, s, 0, api.ErrArg)
	}
}

// TestF5All goes by all roots of some stores: none, one, two, three.
func TestF5All(t *testing.T) {
	next := chance()
	for i := range 30 {
		s := some(next, 3+i%9, 3+i%9+next(3))
		lives(t, s)
		for a := -1; a <= len(s.Nodes); a++ {
			lives(t, s, a)
			for b := -1; b <= len(s.Nodes); b++ {
				lives(t, s, a, b)
				lives(t, s, b, a, next(len(s.Nodes)))
			}
		}
	}
}

func TestF5Model(t *testing.T) {
	next := chance()
	for range 2000 {
		n := 2 + next(80)
		s := some(next, n, n+next(9))
		var roots []int
		for range next(6) {
			roots = append(roots, next(n))
		}
		lives(t, s, roots...)
		// What is live is all live.
		got, found, _ := node.Live(s, roots...)
		again, l, e := node.Live(got, found...)
		if e != api.OK || !same(again, got) || !slices.Equal(l, found) {
			t.Errorf("%v of %v: %v %v %d", found, got, again, l, e)
		}
	}
}

// TestF5Deep goes by a square of the level 42 whose quarters are shared so that there are far more ways down than nodes.
func TestF5Deep(t *testing.T) {
	s, at := towers(300)
	for level := 1; level <= 42; level++ {
		lives(t, s, at[level][2])
		lives(t, s, at[level][3], at[level][0])
	}
	got, l, e := node.Live(s, at[42][2])
	if e != api.OK || len(got.Nodes) != 2+41+42 || !slices.Equal(l, []int{84}) || got.Nodes[84].Pop != most || got.Room != 300 || !node.Right(got) {
		t.Error(len(got.Nodes), l, e)
	}
	x := store(90, of(0, 0, 1, 1), of(1, 1, 0, 0))
	for len(x.Nodes) < 2+2*42 {
		n := len(x.Nodes)
		x, _, _ = node.Intern(x, of(n-1, n-2, n-1, n-2))
		x, _, _ = node.Intern(x, of(n-2, n-1, n-2, n-1))
	}
	lives(t, x, 85)
	lives(t, x, 84, 85, 2)
}

// picture is the cells that a node stands for, row by row.
func picture(s api.Store, n int) []string {
	x := s.Nodes[n]
	if x.Level == 0 {
		return []string{string(".*"[x.Pop])}
	}
	a, b, c, d := picture(s, x.Kids[0]), picture(s, x.Kids[1]), picture(s, x.Kids[2]), picture(s, x.Kids[3])
	var out []string
	for i := range a {
		out = append(out, a[i]+b[i])
	}
	for i := range c {
		out = append(out, c[i]+d[i])
	}
	return out
}

// drawn is the place of the node that stands for a picture, made of its quarters.
func drawn(t *testing.T, s api.Store, rows []string) (api.Store, int) {
	t.Helper()
	half := len(rows) / 2
	if half == 0 {
		return s, map[string]int{".": 0, "*": 1}[rows[0]]
	}
	var kids [4]int
	for i := range kids {
		var quarter []string
		for _, row := range rows[i/2*half:][:half] {
			quarter = append(quarter, row[i%2*half:][:half])
		}
		s, kids[i] = drawn(t, s, quarter)
	}
	s, n, e := node.Intern(s, kids)
	if e != api.OK {
		t.Fatal(kids, e)
	}
	return s, n
}

// TestF6Once goes by pictures: of each there is one node, whoever asks, and in whatever order.
func TestF6Once(t *testing.T) {
	next := chance()
	s := node.New(2000)
	where := map[string]int{}
	for i := range 600 {
		level := i % 4
		rows := make([]string, 1<<level)
		for y := range rows {
			for range rows {
				rows[y] += string("..*"[next(3)])
			}
		}
		if next(3) == 0 {
			clear(rows)
			for y := range rows {
				rows[y] = "........"[:len(rows)]
			}
		}
		var n int
		before := len(s.Nodes)
		s, n = drawn(t, s, rows)
		if !slices.Equal(picture(s, n), rows) {
			t.Fatal(rows, picture(s, n))
		}
		key := ""
		for _, row := range rows {
			key += row + "/"
		}
		if at, is := where[key]; is && (at != n || len(s.Nodes) != before) {
			t.Fatal(rows, at, n)
		}
		where[key] = n
	}
	seen := map[string]int{}
	for n := range s.Nodes {
		key := ""
		alive := 0
		for _, row := range picture(s, n) {
			key += row + "/"
			for _, c := range row {
				if c == '*' {
					alive++
				}
			}
		}
		if at, is := seen[key]; is {
			t.Error("the same cells", at, n)
		}
		seen[key] = n
		if s.Nodes[n].Pop != alive {
			t.Error(n, s.Nodes[n], alive)
		}
	}
}

// TestF6Live goes by what nodes stand for: the same, once all else is gone.
func TestF6Live(t *testing.T) {
	next := chance()
	for range 300 {
		n := 2 + next(40)
		s := some(next, n, n)
		var roots []int
		for range next(5) {
			if at := next(n); s.Nodes[at].Level <= 6 {
				roots = append(roots, at)
			}
		}
		got, found, e := node.Live(s, roots...)
		if e != api.OK || !node.Right(got) || !right(got) || len(found) != len(roots) {
			t.Fatal(got, found, e)
		}
		for i, at := range roots {
			if !slices.Equal(picture(s, at), picture(got, found[i])) || got.Nodes[found[i]].Level != s.Nodes[at].Level {
				t.Error(s, at, got, found[i])
			}
		}
	}
	for level := range 7 {
		s, n, e := node.Empty(some(next, 20, 40), level)
		rows := picture(s, n)
		if e != api.OK || len(rows) != 1<<level || s.Nodes[n].Level != level || s.Nodes[n].Pop != 0 {
			t.Error(level, n, e)
		}
		for _, row := range rows {
			if row != "................................................................"[:1<<level] {
				t.Error(level, row)
			}
		}
	}
}

// TestBig goes by a store of all nodes that there may be.
func TestBig(t *testing.T) {
	s := store(rooms)
	for code := range 16 {
		s.Nodes = append(s.Nodes, over(s, of(code&1, code>>1&1, code>>2&1, code>>3)))
	}
	for code := 0; len(s.Nodes) < rooms; code++ {
		if level := 2 + code&15; code < 1<<16 {
			s.Nodes = append(s.Nodes, over(s, of(level, 2+code>>4&15, 2+code>>8&15, 2+code>>12)))
		} else {
			s.Nodes = append(s.Nodes, over(s, of(18+code&1023, 18+code>>10, 18, 19)))
		}
	}
	if !node.Right(s) {
		t.Fatal("not right")
	}
	if got, n, e := node.Intern(s, of(18, 18, 18, 18)); n != 0 || e != api.ErrFull || !same(got, s) {
		t.Error(n, e)
	}
	if got, n, e := node.Intern(s, s.Nodes[rooms-1].Kids); n != rooms-1 || e != api.OK || !same(got, s) {
		t.Error(n, e)
	}
	if got, n, e := node.Empty(s, 2); n != 18 || e != api.OK || !same(got, s) {
		t.Error(n, e)
	}
	got, l, e := node.Live(s, rooms-1, 18)
	if e != api.OK || len(l) != 2 || !node.Right(got) || got.Room != rooms || len(got.Nodes) > 30 {
		t.Error(l, e, len(got.Nodes))
	}
	s.Nodes = append(s.Nodes, over(s, four(18)))
	refused(t, "one more", s)
	s.Nodes = s.Nodes[:rooms]
	s.Nodes[rooms-1].Kids = s.Nodes[rooms-2].Kids
	s.Nodes[rooms-1].Pop = s.Nodes[rooms-2].Pop
	refused(t, "twice", s)
}

// spoil writes into all that a store has, its spare room too.
func spoil(s api.Store) {
	spare := s.Nodes[:cap(s.Nodes)]
	for i := range spare {
		spare[i] = api.Node{Level: -7, Kids: four(-7), Pop: -7}
	}
}

// TestR3 writes into all that comes out, and looks whether what is handed in stays as it was, behind its length too.
func TestR3(t *testing.T) {
	whole := append(store(12, four(0), of(0, 1, 0, 0), four(1), of(2, 3, 3, 2)).Nodes, api.Node{Pop: 77}, api.Node{Pop: 78}, api.Node{Pop: 79}, api.Node{Pop: 80})
	was := slices.Clone(whole)
	s := api.Store{Nodes: whole[:6], Room: 12}
	roots := []int{4, 3, 4, 99, 98}
	does := map[string]func() api.Store{
		"new":    func() api.Store { return node.New(9) },
		"intern": func() api.Store { x, _, _ := node.Intern(s, four(3)); return x },
		"empty":  func() api.Store { x, _, _ := node.Empty(s, 4); return x },
		"live":   func() api.Store { x, _, _ := node.Live(s, roots[:3]...); return x },
	}
	for name, do := range does {
		first, second := do(), do()
		want := copied(second)
		spoil(first)
		if third := do(); !same(second, want) || !same(third, want) || !slices.Equal(whole, was) {
			t.Error(name, second, third, whole)
		}
	}
	for name, do := range map[string]func(){
		"right": func() { node.Right(s) },
		"found": func() { node.Intern(s, four(0)) },
		"wrong": func() { node.Intern(s, of(0, 0, 0, 2)) },
		"there": func() { node.Empty(s, 1) },
		"full":  func() { node.Empty(s, 42) },
		"none":  func() { node.Live(s, 6) },
	} {
		if do(); !slices.Equal(whole, was) {
			t.Error(name, whole)
		}
	}
	_, first, _ := node.Live(s, roots[:3]...)
	_, second, _ := node.Live(s, roots[:3]...)
	for i := range first[:cap(first)] {
		first[:cap(first)][i] = -7
	}
	if !slices.Equal(second, []int{3, 2, 3}) || !slices.Equal(roots, []int{4, 3, 4, 99, 98}) {
		t.Error(second, roots)
	}
}
