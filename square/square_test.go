package square_test

import (
	"math"
	"slices"
	"testing"

	"gosper/api"
	"gosper/cells"
	"gosper/node"
	"gosper/square"
)

const (
	far   = 1 << 40
	edge  = 1 << 41
	rooms = 100000
)

// at is a list of cells: X, Y, X, Y and so on.
func at(l ...int) []api.Cell {
	var out []api.Cell
	for i := 0; i+1 < len(l); i += 2 {
		out = append(out, api.Cell{X: l[i], Y: l[i+1]})
	}
	return out
}

// of are four kids.
func of(a, b, c, d int) [4]int { return [4]int{a, b, c, d} }

// four are four times the same kid.
func four(n int) [4]int { return of(n, n, n, n) }

// store is one of the two cells, and of nodes that have some kids.
func store(room int, kids ...[4]int) api.Store {
	s := node.New(room)
	for _, k := range kids {
		s, _ = put(s, k)
	}
	return s
}

// put is a store with the node of some kids, behind all others, and its place.
func put(s api.Store, kids [4]int) (api.Store, int) {
	n := api.Node{Level: s.Nodes[kids[0]].Level + 1, Kids: kids}
	for _, k := range kids {
		n.Pop = min(n.Pop+s.Nodes[k].Pop, 1<<62-1)
	}
	if i := slices.IndexFunc(s.Nodes, func(m api.Node) bool { return m.Level > 0 && m.Kids == kids }); i >= 0 {
		return s, i
	}
	s.Nodes = append(s.Nodes, n)
	return s, len(s.Nodes) - 1
}

// plot is a square of cells: its top left corner, and how many it has a side.
type plot struct{ x, y, side int }

// whole is the plot of a node's square.
func whole(level int) plot {
	side := 1 << level
	return plot{-side / 2, -side / 2, side}
}

func (p plot) has(c api.Cell) bool {
	return c.X >= p.x && c.X < p.x+p.side && c.Y >= p.y && c.Y < p.y+p.side
}

func (p plot) quarters() [4]plot {
	h := p.side / 2
	return [4]plot{{p.x, p.y, h}, {p.x + h, p.y, h}, {p.x, p.y + h, h}, {p.x + h, p.y + h, h}}
}

// good tells whether a place is one of a node of a level from 1 on, in a right store.
func good(s api.Store, n int) bool {
	return node.Right(s) && n >= 0 && n < len(s.Nodes) && s.Nodes[n].Level >= 1
}

// makeModel is what Make should answer.
func makeModel(s api.Store, l []api.Cell, level int) (api.Store, int, api.Errno) {
	if !node.Right(s) || level < 1 || level > 42 || !cells.Right(l) {
		return s, 0, api.ErrArg
	}
	for _, c := range l {
		if !whole(level).has(c) {
			return s, 0, api.ErrBounds
		}
	}
	out, n, e := drawnModel(s, l, level, whole(level))
	if e != api.OK {
		return s, 0, e
	}
	return out, n, api.OK
}

func drawnModel(s api.Store, l []api.Cell, level int, p plot) (api.Store, int, api.Errno) {
	if !slices.ContainsFunc(l, p.has) {
		return node.Empty(s, level)
	}
	if level == 0 {
		return s, 1, api.OK
	}
	var kids [4]int
	for i, q := range p.quarters() {
		var e api.Errno
		if s, kids[i], e = drawnModel(s, l, level-1, q); e != api.OK {
			return s, 0, e
		}
	}
	return node.Intern(s, kids)
}

// aliveModel tells whether a cell is alive in a plot that a node stands for.
func aliveModel(s api.Store, n int, p plot, c api.Cell) bool {
	if s.Nodes[n].Level == 0 {
		return n == 1
	}
	for i, q := range p.quarters() {
		if q.has(c) {
			return aliveModel(s, s.Nodes[n].Kids[i], q, c)
		}
	}
	return false
}

// listModel are the cells of a plot that a node stands for, in whatever order.
func listModel(s api.Store, n int, p plot) []api.Cell {
	if p.side == 1 && n == 1 {
		return at(p.x, p.y)
	}
	var out []api.Cell
	if s.Nodes[n].Pop > 0 {
		for i, q := range p.quarters() {
			out = append(out, listModel(s, s.Nodes[n].Kids[i], q)...)
		}
	}
	return out
}

// setModel is what Set should answer.
func setModel(s api.Store, n int, c api.Cell, alive bool) (api.Store, int, api.Errno) {
	if !good(s, n) {
		return s, 0, api.ErrArg
	}
	p := whole(s.Nodes[n].Level)
	if !p.has(c) {
		return s, 0, api.ErrBounds
	}
	out, m, e := turnedModel(s, n, p, c, alive)
	if e != api.OK {
		return s, 0, e
	}
	return out, m, api.OK
}

func turnedModel(s api.Store, n int, p plot, c api.Cell, alive bool) (api.Store, int, api.Errno) {
	if p.side == 1 {
		return s, map[bool]int{true: 1}[alive], api.OK
	}
	kids := s.Nodes[n].Kids
	for i, q := range p.quarters() {
		if q.has(c) {
			var e api.Errno
			if s, kids[i], e = turnedModel(s, kids[i], q, c, alive); e != api.OK {
				return s, 0, e
			}
		}
	}
	return node.Intern(s, kids)
}

// growModel is what Grow should answer.
func growModel(s api.Store, n int) (api.Store, int, api.Errno) {
	if !good(s, n) || s.Nodes[n].Level == 42 {
		return s, 0, api.ErrArg
	}
	x := s.Nodes[n]
	out, d, e := node.Empty(s, x.Level-1)
	var l []int
	for _, kids := range [][4]int{of(d, d, d, x.Kids[0]), of(d, d, x.Kids[1], d), of(d, x.Kids[2], d, d), of(x.Kids[3], d, d, d)} {
		var m int
		if e == api.OK {
			out, m, e = node.Intern(out, kids)
		}
		l = append(l, m)
	}
	var m int
	if e == api.OK {
		out, m, e = node.Intern(out, [4]int(l))
	}
	if e != api.OK {
		return s, 0, e
	}
	return out, m, api.OK
}

// boxModel is the least box about some cells, whatever their order; false: there are none.
func boxModel(l []api.Cell) (api.Box, bool) {
	if len(l) == 0 {
		return api.Box{}, false
	}
	least, most := l[0], l[0]
	for _, c := range l {
		least = api.Cell{X: min(least.X, c.X), Y: min(least.Y, c.Y)}
		most = api.Cell{X: max(most.X, c.X), Y: max(most.Y, c.Y)}
	}
	return api.Box{X: least.X, Y: least.Y, W: most.X - least.X + 1, H: most.Y - least.Y + 1}, true
}

func same(a, b api.Store) bool { return a.Room == b.Room && slices.Equal(a.Nodes, b.Nodes) }

func copied(s api.Store) api.Store {
	return api.Store{Nodes: slices.Clone(s.Nodes), Room: s.Room}
}

// short is the beginning of a store, for a test's remark.
func short(s api.Store) api.Store {
	return api.Store{Nodes: s.Nodes[:min(len(s.Nodes), 9)], Room: s.Room}
}

// brief is the beginning of a list, for a test's remark.
func brief(l []api.Cell) []api.Cell { return l[:min(len(l), 9)] }

// chance gives numbers below others, always the same ones.
func chance() func(int) int {
	x := 1
	return func(below int) int {
		x = x*6364136223846793005 + 1442695040888963407
		return int(uint(x) >> 33 % uint(below))
	}
}

// scattered is a set of at most so many cells of a level's square that are within bounds: near each other, or far.
func scattered(next func(int) int, most, level int) []api.Cell {
	p := whole(level)
	middle := api.Cell{X: p.x + next(p.side), Y: p.y + next(p.side)}
	var l []api.Cell
	for range next(most + 1) {
		c := api.Cell{X: middle.X + next(9) - 4, Y: middle.Y + next(9) - 4}
		if next(3) == 0 {
			c = api.Cell{X: p.x + next(p.side), Y: p.y + next(p.side)}
		}
		if p.has(c) && cells.Right([]api.Cell{c}) {
			l = append(l, c)
		}
	}
	l, _ = cells.Of(l)
	return l
}

// some is a right store of so many nodes that chance takes, rather over the later ones.
func some(next func(int) int, n, room int) api.Store {
	s := node.New(room)
	for len(s.Nodes) < n {
		first := max(next(len(s.Nodes)), next(len(s.Nodes)))
		kids := four(first)
		for i := 1; i < 4; {
			if k := next(len(s.Nodes)); s.Nodes[k].Level == s.Nodes[first].Level {
				kids[i] = k
				i++
			}
		}
		s, _ = put(s, kids)
	}
	return s
}

// filled is a store that has of each level from 1 to 42 the square in which all is alive, and where these are.
func filled(room int) (api.Store, [43]int) {
	s := node.New(room)
	places := [43]int{1}
	for level := 1; level <= 42; level++ {
		s, places[level] = put(s, four(places[level-1]))
	}
	return s, places
}

// notSets are lists that are no sets, each by one thing alone.
func notSets() [][]api.Cell {
	long := at()
	for i := range 2001 {
		long = append(long, api.Cell{X: i % 64, Y: i / 64})
	}
	return [][]api.Cell{
		at(0, 0, 0, 0), at(1, 0, 0, 0), at(0, 1, 0, 0), at(0, 1, 1, 0), at(-1, -1, 0, -1, 0, 0, -1, 0),
		at(far+1, 0), at(-far-1, 0), at(0, far+1), at(0, -far-1), at(math.MaxInt, 0), at(0, math.MinInt), long,
	}
}

// notRight are stores that are not right, which have a node of the level 1 at the place 2.
func notRight() []api.Store {
	out := []api.Store{
		store(2, of(0, 1, 0, 0)),
		{Nodes: store(9, of(0, 1, 0, 0)).Nodes},
		{Nodes: store(9, of(0, 1, 0, 0)).Nodes, Room: -1},
		{Nodes: store(9, of(0, 1, 0, 0)).Nodes, Room: rooms + 1},
	}
	for _, n := range []api.Node{
		{Level: 1, Kids: of(0, 1, 0, 0)}, {Level: 1, Kids: of(0, 1, 0, 0), Pop: 2}, {Level: 1, Kids: four(2)}, {Level: 1, Kids: of(0, 1, 0, 3), Pop: 1},
		{Level: 1, Kids: of(0, 1, 0, -1), Pop: 1}, {Level: 2, Kids: of(0, 1, 0, 0), Pop: 1}, {Level: 43, Kids: of(0, 1, 0, 0), Pop: 1},
		{Level: math.MaxInt, Kids: of(0, 1, 0, 0), Pop: 1}, {Level: 1, Kids: of(0, 1, 0, math.MaxInt), Pop: 1}, {Level: 1, Kids: of(0, 0, 0, math.MinInt), Pop: 1},
	} {
		out = append(out, api.Store{Nodes: []api.Node{{}, {Pop: 1}, n}, Room: 9})
	}
	twice := store(9, of(0, 1, 0, 0))
	twice.Nodes = append(twice.Nodes, twice.Nodes[2])
	around := store(9, four(0))
	around.Nodes = append(around.Nodes, api.Node{Level: 1, Kids: four(4), Pop: 1}, api.Node{Level: 2, Kids: four(3), Pop: 4})
	first := store(9, of(0, 1, 0, 0))
	first.Nodes[0].Pop = 1
	second := store(9, of(0, 1, 0, 0))
	second.Nodes[1].Pop = 2
	return append(out, twice, around, first, second)
}

// answered holds an answer against what it should be, and that the store that was handed in is as it was.
func answered(t *testing.T, what any, s, was, got api.Store, n int, e api.Errno, want api.Store, at int, f api.Errno) {
	t.Helper()
	if n != at || e != f || !same(got, want) {
		t.Errorf("%v in %v: %v %d %d, not %v %d %d", what, short(was), short(got), n, e, short(want), at, f)
	}
	if !same(s, was) {
		t.Errorf("%v in %v: written into: %v", what, short(was), short(s))
	}
}

func makes(t *testing.T, s api.Store, l []api.Cell, level int) {
	t.Helper()
	was, list := copied(s), slices.Clone(l)
	got, n, e := square.Make(s, l, level)
	want, m, f := makeModel(was, list, level)
	answered(t, [2]any{brief(l), level}, s, was, got, n, e, want, m, f)
	if !slices.Equal(l, list) {
		t.Error("written into", brief(list), brief(l))
	}
}

func sets(t *testing.T, s api.Store, n int, c api.Cell, alive bool) {
	t.Helper()
	was := copied(s)
	got, m, e := square.Set(s, n, c, alive)
	want, k, f := setModel(was, n, c, alive)
	answered(t, [3]any{n, c, alive}, s, was, got, m, e, want, k, f)
}

func grows(t *testing.T, s api.Store, n int) {
	t.Helper()
	was := copied(s)
	got, m, e := square.Grow(s, n)
	want, k, f := growModel(was, n)
	answered(t, n, s, was, got, m, e, want, k, f)
}

// reads holds what Cells, Get and Box answer of a node of few cells against what these should be.
func reads(t *testing.T, s api.Store, n int, about ...api.Cell) {
	t.Helper()
	was := copied(s)
	p := whole(s.Nodes[n].Level)
	list := listModel(s, n, p)
	want, f := cells.Of(list)
	if l, e := square.Cells(s, n); e != f || !slices.Equal(l, want) {
		t.Errorf("%d of %v: %v %d, not %v %d", n, short(s), brief(l), e, brief(want), f)
	}
	for _, c := range about {
		if is, e := square.Get(s, n, c); is != aliveModel(s, n, p, c) || is != slices.Contains(list, c) || e != api.OK {
			t.Errorf("%v in %d of %v: %v %d", c, n, short(s), is, e)
		}
	}
	b, is := square.Box(s, n)
	if a, any := boxModel(list); a != b || any != is {
		t.Errorf("%d of %v: %v %v, not %v %v", n, short(s), b, is, a, any)
	}
	if !same(s, was) {
		t.Error("written into", short(was), short(s))
	}
}

// refused holds that no call takes a store, or a place in it.
func refused(t *testing.T, what any, s api.Store, n int) {
	t.Helper()
	was := copied(s)
	for _, c := range at(0, 0, 1<<50, 0, math.MinInt, math.MaxInt) {
		if is, e := square.Get(s, n, c); is || e != api.ErrArg {
			t.Error(what, n, c, is, e)
		}
		for _, alive := range []bool{true, false} {
			got, m, e := square.Set(s, n, c, alive)
			answered(t, what, s, was, got, m, e, was, 0, api.ErrArg)
		}
	}
	if l, e := square.Cells(s, n); len(l) > 0 || e != api.ErrArg {
		t.Error(what, n, l, e)
	}
	got, m, e := square.Grow(s, n)
	answered(t, what, s, was, got, m, e, was, 0, api.ErrArg)
	if b, is := square.Box(s, n); b != (api.Box{}) || is {
		t.Error(what, n, b, is)
	}
}

func TestExample(t *testing.T) {
	s, n, e := square.Make(node.New(9), at(0, 0), 1)
	if e != api.OK || n != 2 || !same(s, store(9, of(0, 0, 0, 1))) || s.Nodes[2] != (api.Node{Level: 1, Kids: of(0, 0, 0, 1), Pop: 1}) {
		t.Error(s, n, e)
	}
}

func TestG1(t *testing.T) {
	for _, x := range []struct {
		l     []api.Cell
		level int
		kids  [][4]int // of the nodes behind the two cells, the last one being what is made
	}{
		{nil, 1, [][4]int{four(0)}},
		{[]api.Cell{}, 3, [][4]int{four(0), four(2), four(3)}},
		{at(-1, -1), 1, [][4]int{of(1, 0, 0, 0)}},
		{at(0, -1), 1, [][4]int{of(0, 1, 0, 0)}},
		{at(-1, 0), 1, [][4]int{of(0, 0, 1, 0)}},
		{at(0, 0), 1, [][4]int{of(0, 0, 0, 1)}},
		{at(-1, -1, 0, -1, -1, 0, 0, 0), 1, [][4]int{four(1)}},
		{at(0, 0), 2, [][4]int{four(0), of(1, 0, 0, 0), of(2, 2, 2, 3)}},
		{at(-2, -2), 2, [][4]int{of(1, 0, 0, 0), four(0), of(2, 3, 3, 3)}},
		{at(1, -2, -2, 1), 2, [][4]int{four(0), of(0, 1, 0, 0), of(0, 0, 1, 0), of(2, 3, 4, 2)}},
		{at(-2, -2, 0, -2, -2, 0, 0, 0), 2, [][4]int{of(1, 0, 0, 0), four(2)}},
		{at(3, 3), 3, [][4]int{four(0), four(2), of(0, 0, 0, 1), of(2, 2, 2, 4), of(3, 3, 3, 5)}},
		{at(-4, -1), 3, [][4]int{four(0), of(0, 0, 1, 0), of(2, 2, 3, 2), four(2), of(4, 5, 5, 5)}},
	} {
		s, n, e := square.Make(node.New(20), x.l, x.level)
		if e != api.OK || n != len(x.kids)+1 || !same(s, store(20, x.kids...)) {
			t.Error(x.l, x.level, s, n, e)
		}
		makes(t, node.New(20), x.l, x.level)
		// All that it needs is there.
		if again, m, e := square.Make(s, x.l, x.level); e != api.OK || m != n || !same(again, s) {
			t.Error(x.l, x.level, again, m, e)
		}
	}
}

// TestG1Edges goes by the corners of each level's square, and by what is next to them.
func TestG1Edges(t *testing.T) {
	s := node.New(1000)
	for level := 1; level <= 42; level++ {
		h := 1 << (level - 1)
		for _, c := range []api.Cell{{X: -h, Y: -h}, {X: h - 1, Y: -h}, {X: -h, Y: h - 1}, {X: h - 1, Y: h - 1}, {X: 0, Y: h - 1}, {X: -h, Y: -1}, {X: -1, Y: 0}} {
			got, n, e := square.Make(s, []api.Cell{c}, level)
			switch {
			case level == 42 && (c.X < -far || c.X > far || c.Y < -far || c.Y > far):
				if e != api.ErrArg {
					t.Error(level, c, e)
				}
			case e != api.OK || got.Nodes[n].Pop != 1 || got.Nodes[n].Level != level || !aliveModel(got, n, whole(level), c):
				t.Error(level, c, n, e)
			}
		}
		for _, c := range []api.Cell{{X: -h - 1}, {X: h}, {Y: -h - 1}, {Y: h}, {X: h, Y: h}, {X: h, Y: -h}, {X: -h - 1, Y: h - 1}} {
			if !cells.Right([]api.Cell{c}) {
				continue
			}
			got, n, e := square.Make(s, []api.Cell{c}, level)
			answered(t, c, s, s, got, n, e, s, 0, api.ErrBounds)
			l, _ := cells.Of(append(at(-1, -1, 0, 0), c))
			got, n, e = square.Make(s, l, level)
			answered(t, l, s, s, got, n, e, s, 0, api.ErrBounds)
		}
	}
	for _, l := range [][]api.Cell{at(far, far), at(-far, -far), at(far, -far, -far, far), at(-far, 0, far, 0), at(0, -far, 0, far), at(far-1, far-1)} {
		makes(t, s, l, 42)
		makes(t, s, l, 41)
		makes(t, s, l, 40)
	}
}

func TestG1Wrong(t *testing.T) {
	s := store(99, of(0, 1, 0, 0), four(0), four(3))
	for _, level := range []int{math.MinInt, -1 << 32, -1, 0, 43, 44, 64, 65, 1<<32 + 1, math.MaxInt} {
		for _, l := range [][]api.Cell{nil, at(0, 0), at(-1, -1), at(far, far), at(1, 0, 0, 0)} {
			got, n, e := square.Make(s, l, level)
			answered(t, level, s, s, got, n, e, s, 0, api.ErrArg)
		}
	}
	for i, l := range notSets() {
		for _, level := range []int{1, 2, 7, 40, 41, 42} {
			got, n, e := square.Make(s, l, level)
			answered(t, i, s, s, got, n, e, s, 0, api.ErrArg)
		}
	}
	for i, x := range notRight() {
		was := copied(x)
		for _, l := range [][]api.Cell{nil, at(0, 0), at(0, 1, 0, 0), at(far, far)} {
			got, n, e := square.Make(x, l, 1)
			answered(t, i, x, was, got, n, e, was, 0, api.ErrArg)
		}
	}
	// Bounds are told ahead of what has no room, and what may not be ahead of both.
	full := node.New(2)
	for _, x := range []struct {
		l     []api.Cell
		level int
		e     api.Errno
	}{{at(2, 0), 2, api.ErrBounds}, {at(0, 0, 2, 0), 2, api.ErrBounds}, {at(2, 0, 0, 0), 2, api.ErrArg}, {at(0, 0), 2, api.ErrFull}, {nil, 1, api.ErrFull}, {nil, 0, api.ErrArg}, {at(0, 0), 0, api.ErrArg}, {at(0, 0), 43, api.ErrArg}, {nil, 43, api.ErrArg}} {
		got, n, e := square.Make(full, x.l, x.level)
		answered(t, x.l, full, node.New(2), got, n, e, full, 0, x.e)
	}
}

// TestG1Room goes by all rooms, up to one in which there is enough of it.
func TestG1Room(t *testing.T) {
	for _, l := range [][]api.Cell{nil, at(0, 0), at(1, -2, -2, 0), at(-4, -4, 3, -4, -4, 3, 3, 3), at(-1, -1, 0, 0, 2, 3), at(-3, -3, 0, -3, 1, 1)} {
		for _, kids := range [][][4]int{nil, {four(0)}, {four(1), of(0, 1, 0, 0), four(2)}, {four(0), four(2), four(3)}} {
			for level := 1; level <= 5; level++ {
				for room := len(kids) + 2; room < 25; room++ {
					makes(t, store(room, kids...), l, level)
				}
			}
		}
	}
}

// TestG1All goes by all that may be alive in a square of the level 2.
func TestG1All(t *testing.T) {
	for code := range 1 << 16 {
		l := make([]api.Cell, 0, 16)
		for i := range 16 {
			if code>>i&1 == 1 {
				l = append(l, api.Cell{X: i%4 - 2, Y: i/4 - 2})
			}
		}
		s, n, e := square.Make(node.New(9), l, 2)
		if e != api.OK || n != len(s.Nodes)-1 || s.Nodes[n].Pop != len(l) || s.Nodes[n].Level != 2 {
			t.Fatal(l, s, n, e)
		}
		for i := range 16 {
			quarter := s.Nodes[s.Nodes[n].Kids[i/8*2+i%4/2]]
			if quarter.Kids[i/4%2*2+i%2] != code>>i&1 {
				t.Fatal(l, i, s)
			}
		}
	}
}

func TestG1Model(t *testing.T) {
	next := chance()
	for i := range 1500 {
		s := some(next, 2+next(30), 2+30+next(200))
		level := 1 + next(42)
		if i%2 == 0 {
			level = 1 + next(5)
		}
		makes(t, s, scattered(next, 6, level), level)
		makes(t, s, scattered(next, 4, level+1), level)
	}
}

func TestG2(t *testing.T) {
	s := store(99, four(0), of(0, 1, 1, 0), four(1), of(2, 3, 2, 4), of(3, 3, 3, 3), of(5, 6, 6, 5))
	for _, x := range []struct {
		n    int
		want []api.Cell
	}{
		{2, nil},
		{3, at(0, -1, -1, 0)},
		{4, at(-1, -1, 0, -1, -1, 0, 0, 0)},
		{5, at(1, -2, 0, -1, 0, 0, 1, 0, 0, 1, 1, 1)},
	} {
		if l, e := square.Cells(s, x.n); e != api.OK || !slices.Equal(l, x.want) {
			t.Error(x.n, l, e)
		}
	}
	for n := 2; n < len(s.Nodes); n++ {
		reads(t, s, n)
	}
	for _, n := range []int{math.MinInt, -1, 0, 1, 8, 9, 1 << 32, math.MaxInt} {
		refused(t, "place", s, n)
	}
	for i, x := range notRight() {
		for _, n := range []int{-1, 0, 1, 2, 3, 4, 5} {
			refused(t, i, x, n)
		}
	}
}

// many is a node that stands for so many cells, of a level from 6 on, about its middle.
func many(t *testing.T, count, level int) (api.Store, int) {
	t.Helper()
	l := make([]api.Cell, 0, count)
	for i := range count {
		l = append(l, api.Cell{X: i%60 - 30, Y: i/60 - 30})
	}
	s, n, e := square.Make(node.New(rooms), l[:min(count, 2000)], level)
	for _, c := range l[min(count, 2000):] {
		if e == api.OK {
			s, n, e = square.Set(s, n, c, true)
		}
	}
	if e != api.OK || s.Nodes[n].Pop != count {
		t.Fatal(count, level, e)
	}
	return s, n
}

func TestG2Long(t *testing.T) {
	for _, x := range []struct {
		count int
		e     api.Errno
	}{{1999, api.OK}, {2000, api.OK}, {2001, api.ErrLong}, {2010, api.ErrLong}} {
		for _, level := range []int{7, 42} {
			s, n := many(t, x.count, level)
			l, e := square.Cells(s, n)
			if e != x.e || e == api.OK && (len(l) != x.count || !cells.Right(l)) || e != api.OK && len(l) > 0 {
				t.Error(x.count, level, len(l), e)
			}
		}
	}
	s, places := filled(99)
	for level, n := range places[1:] {
		l, e := square.Cells(s, n)
		if ok := level+1 <= 5; ok != (e == api.OK) || !ok && (e != api.ErrLong || len(l) > 0) || ok && len(l) != s.Nodes[n].Pop {
			t.Error(level+1, len(l), e)
		}
	}
}

func TestG2Bounds(t *testing.T) {
	s, n, _ := square.Make(node.New(rooms), at(0, 0), 42)
	for _, x := range []struct {
		c api.Cell
		e api.Errno
	}{
		{api.Cell{X: far}, api.OK}, {api.Cell{X: -far}, api.OK}, {api.Cell{Y: far}, api.OK}, {api.Cell{Y: -far}, api.OK}, {api.Cell{X: far, Y: -far}, api.OK},
		{api.Cell{X: far + 1}, api.ErrBounds}, {api.Cell{X: -far - 1}, api.ErrBounds}, {api.Cell{Y: far + 1}, api.ErrBounds}, {api.Cell{Y: -far - 1}, api.ErrBounds},
		{api.Cell{X: edge - 1, Y: edge - 1}, api.ErrBounds}, {api.Cell{X: -edge, Y: -edge}, api.ErrBounds}, {api.Cell{X: -edge, Y: edge - 1}, api.ErrBounds},
	} {
		a, m, e := square.Set(s, n, x.c, true)
		if e != api.OK {
			t.Fatal(x.c, e)
		}
		reads(t, a, m, x.c, api.Cell{})
		want, _ := cells.Of([]api.Cell{{}, x.c})
		if l, e := square.Cells(a, m); e != x.e || !slices.Equal(l, want) {
			t.Error(x.c, l, e)
		}
	}
	// Too many are told ahead of too far out.
	for _, x := range []struct {
		count int
		e     api.Errno
	}{{1999, api.ErrBounds}, {2000, api.ErrLong}} {
		s, n := many(t, x.count, 42)
		s, n, _ = square.Set(s, n, api.Cell{X: -edge}, true)
		if l, e := square.Cells(s, n); e != x.e || len(l) > 0 || s.Nodes[n].Pop != x.count+1 {
			t.Error(x.count, len(l), e)
		}
	}
}

// around are all cells of a square about the middle that reaches so far.
func around(h int) []api.Cell {
	var out []api.Cell
	for y := -h; y <= h; y++ {
		for x := -h; x <= h; x++ {
			out = append(out, api.Cell{X: x, Y: y})
		}
	}
	return out
}

// TestReads goes by nodes that chance takes: what stands in Cells, Get and Box (G2, G3, G5).
func TestReads(t *testing.T) {
	next := chance()
	about := around(5)
	for range 200 {
		s := some(next, 3+next(25), 40)
		for n := 2; n < len(s.Nodes); n++ {
			if s.Nodes[n].Pop <= 2000 && s.Nodes[n].Level <= 3 {
				reads(t, s, n, about...)
			} else if s.Nodes[n].Pop <= 2000 {
				reads(t, s, n, about[next(60)], about[60+next(60)])
			}
		}
	}
	for range 200 {
		level := 1 + next(42)
		l := scattered(next, 20, level)
		s, n, e := square.Make(some(next, 12, 2000), l, level)
		if e != api.OK {
			t.Fatal(l, level, e)
		}
		near := slices.Clone(l)
		for _, c := range l {
			near = append(near, api.Cell{X: c.X + 1, Y: c.Y}, api.Cell{X: c.X, Y: c.Y - 1}, api.Cell{X: -c.X, Y: c.Y}, api.Cell{X: c.Y, Y: c.X})
		}
		reads(t, s, n, near...)
	}
}

func TestG3Get(t *testing.T) {
	s := store(99, of(0, 1, 0, 0), four(1))
	for _, x := range []struct {
		n    int
		c    api.Cell
		want bool
	}{
		{2, api.Cell{X: 0, Y: -1}, true}, {2, api.Cell{X: -1, Y: -1}, false}, {2, api.Cell{X: -1, Y: 0}, false}, {2, api.Cell{X: 0, Y: 0}, false},
		{3, api.Cell{X: 0, Y: 0}, true}, {3, api.Cell{X: -1, Y: -1}, true},
	} {
		if is, e := square.Get(s, x.n, x.c); is != x.want || e != api.OK {
			t.Error(x.n, x.c, is, e)
		}
	}
	// Out of the square nothing is alive, however far out.
	full, places := filled(99)
	for level := 1; level <= 42; level++ {
		h := 1 << (level - 1)
		for _, c := range []api.Cell{{X: -h, Y: -h}, {X: h - 1, Y: -h}, {X: -h, Y: h - 1}, {X: h - 1, Y: h - 1}, {}, {X: -1, Y: h / 2}} {
			if is, e := square.Get(full, places[level], c); !is || e != api.OK {
				t.Error(level, c, is, e)
			}
		}
		for _, far := range []int{-h - 1, h, h + 1, -h - 2, 3 * h, -3 * h, 2 * h, -2 * h, math.MaxInt, math.MinInt, math.MinInt + h, math.MaxInt - h} {
			for _, c := range []api.Cell{{X: far}, {Y: far}, {X: far, Y: far}, {X: far, Y: -h}, {X: h - 1, Y: far}} {
				if is, e := square.Get(full, places[level], c); is || e != api.OK {
					t.Error(level, c, is, e)
				}
			}
		}
	}
}

func TestG3Set(t *testing.T) {
	s := store(20, four(0), of(0, 1, 0, 0), of(2, 3, 2, 2))
	for _, x := range []struct {
		n     int
		c     api.Cell
		alive bool
		want  int
		more  [][4]int
	}{
		{4, api.Cell{X: 1, Y: -2}, true, 4, nil},
		{4, api.Cell{X: 1, Y: -2}, false, 5, [][4]int{four(2)}},
		{4, api.Cell{X: 0, Y: 0}, false, 4, nil},
		{4, api.Cell{X: 1, Y: 0}, true, 5, [][4]int{of(2, 3, 2, 3)}},
		{4, api.Cell{X: -2, Y: 1}, true, 6, [][4]int{of(0, 0, 1, 0), of(2, 3, 5, 2)}},
		{2, api.Cell{X: 0, Y: -1}, true, 3, nil},
		{3, api.Cell{X: 0, Y: -1}, false, 2, nil},
		{3, api.Cell{X: 0, Y: 0}, true, 5, [][4]int{of(0, 1, 0, 1)}},
	} {
		want := copied(s)
		for _, k := range x.more {
			want, _ = put(want, k)
		}
		got, n, e := square.Set(s, x.n, x.c, x.alive)
		answered(t, [3]any{x.n, x.c, x.alive}, s, copied(s), got, n, e, want, x.want, api.OK)
	}
	// Out of the square no cell is set, alive or not.
	for level := 1; level <= 42; level++ {
		s, n, _ := node.Empty(node.New(99), level)
		h := 1 << (level - 1)
		for _, far := range []int{-h - 1, h, 2 * h, -2 * h, math.MaxInt, math.MinInt, math.MinInt + h} {
			for _, c := range []api.Cell{{X: far}, {Y: far}, {X: far, Y: far}, {X: far, Y: -h}, {X: h - 1, Y: far}} {
				for _, alive := range []bool{true, false} {
					got, m, e := square.Set(s, n, c, alive)
					answered(t, c, s, s, got, m, e, s, 0, api.ErrBounds)
				}
			}
		}
		for _, c := range []api.Cell{{X: -h, Y: -h}, {X: h - 1, Y: -h}, {X: -h, Y: h - 1}, {X: h - 1, Y: h - 1}, {}, {X: -1}, {Y: -1}} {
			sets(t, s, n, c, true)
			sets(t, s, n, c, false)
		}
	}
	// Bounds are told ahead of what has no room.
	full := store(3, four(0))
	for _, x := range []struct {
		c     api.Cell
		alive bool
		e     api.Errno
	}{{api.Cell{X: 1}, true, api.ErrBounds}, {api.Cell{}, true, api.ErrFull}} {
		got, n, e := square.Set(full, 2, x.c, x.alive)
		answered(t, x.c, full, store(3, four(0)), got, n, e, full, 0, x.e)
	}
}

func TestG3Model(t *testing.T) {
	next := chance()
	about := around(3)
	for range 150 {
		s := some(next, 3+next(20), 20+next(15))
		n := 2 + next(len(s.Nodes)-2)
		for _, c := range about {
			sets(t, s, n, c, next(2) == 0)
		}
		p := whole(s.Nodes[n].Level)
		for range 20 {
			sets(t, s, n, api.Cell{X: p.x + next(p.side), Y: p.y + next(p.side)}, next(2) == 0)
		}
	}
}

// TestG3Room goes by all rooms, up to one in which there is enough of it.
func TestG3Room(t *testing.T) {
	kids := [][4]int{four(0), of(0, 1, 0, 0), four(2), of(2, 3, 2, 2), four(4), of(5, 4, 4, 5)}
	for room := len(kids) + 2; room < 14; room++ {
		s := store(room, kids...)
		for n := range len(s.Nodes) {
			for _, c := range around(4) {
				sets(t, s, n, c, true)
				sets(t, s, n, c, false)
			}
		}
	}
}

func TestG4(t *testing.T) {
	kids := [][4]int{of(1, 0, 0, 0), four(1), four(0), of(0, 0, 0, 1), of(3, 2, 4, 5)}
	for _, x := range []struct {
		kids    [][4]int
		n, want int
		more    [][4]int
	}{
		{kids, 2, 7, [][4]int{of(5, 4, 4, 4)}},
		{kids, 3, 9, [][4]int{of(0, 0, 1, 0), of(0, 1, 0, 0), of(5, 7, 8, 2)}},
		{kids, 4, 7, [][4]int{four(4)}},
		{kids, 5, 7, [][4]int{of(4, 4, 4, 2)}},
		{kids, 6, 11, [][4]int{of(4, 4, 4, 3), of(4, 4, 2, 4), four(4), of(5, 4, 4, 4), of(7, 8, 9, 10)}},
		{[][4]int{four(1), four(2)}, 3, 9, [][4]int{four(0), of(4, 4, 4, 2), of(4, 4, 2, 4), of(4, 2, 4, 4), of(2, 4, 4, 4), of(5, 6, 7, 8)}},
	} {
		s := store(30, x.kids...)
		got, n, e := square.Grow(s, x.n)
		answered(t, x.n, s, store(30, x.kids...), got, n, e, store(30, slices.Concat(x.kids, x.more)...), x.want, api.OK)
		// All that it needs is there.
		again, n, e := square.Grow(got, x.n)
		answered(t, x.n, got, copied(got), again, n, e, got, x.want, api.OK)
	}
}

// TestG4Levels goes by all levels: the last one does not grow.
func TestG4Levels(t *testing.T) {
	full, places := filled(300)
	for level := 1; level <= 42; level++ {
		grows(t, full, places[level])
		s, n, _ := square.Make(node.New(300), at(-1, -1, 0, 0), level)
		grows(t, s, n)
		s, n, _ = node.Empty(node.New(300), level)
		grows(t, s, n)
	}
	for _, room := range []int{44, 45, 300} {
		s, places := filled(room)
		got, n, e := square.Grow(s, places[42])
		answered(t, room, s, copied(s), got, n, e, s, 0, api.ErrArg)
		s, n, _ = node.Empty(node.New(room), 42)
		got, n, e = square.Grow(s, n)
		answered(t, room, s, copied(s), got, n, e, s, 0, api.ErrArg)
	}
	s, n, _ := square.Make(node.New(300), at(-far, -far, far-1, 0), 41)
	if s, n, e := square.Grow(s, n); e != api.OK || s.Nodes[n].Level != 42 {
		t.Error(n, e)
	} else {
		reads(t, s, n, at(-far, -far, far-1, 0, far, 0)...)
	}
}

// TestG4Room goes by all rooms, up to one in which there is enough of it.
func TestG4Room(t *testing.T) {
	for _, kids := range [][][4]int{
		{of(0, 1, 0, 0), four(1), of(1, 0, 1, 0)},
		{four(1), four(2), four(3), four(4)},
		{four(0), of(0, 1, 1, 0), of(2, 3, 3, 2), of(4, 4, 4, 4)},
	} {
		for room := len(kids) + 2; room < 20; room++ {
			s := store(room, kids...)
			for n := range s.Nodes {
				grows(t, s, n)
			}
		}
	}
}

func TestG4Model(t *testing.T) {
	next := chance()
	for range 300 {
		s := some(next, 3+next(30), 40+next(9))
		for n := -1; n <= len(s.Nodes); n++ {
			grows(t, s, n)
		}
	}
}

func TestG5(t *testing.T) {
	s := store(99, four(0), of(0, 1, 0, 0), of(0, 0, 1, 0), of(2, 3, 2, 2), of(2, 2, 4, 2), of(2, 3, 4, 2), of(5, 5, 5, 5), four(2), of(9, 9, 9, 6))
	for _, x := range []struct {
		n    int
		want api.Box
		is   bool
	}{
		{2, api.Box{}, false},
		{3, api.Box{X: 0, Y: -1, W: 1, H: 1}, true},
		{4, api.Box{X: -1, Y: 0, W: 1, H: 1}, true},
		{5, api.Box{X: 1, Y: -2, W: 1, H: 1}, true},
		{6, api.Box{X: -2, Y: 1, W: 1, H: 1}, true},
		{7, api.Box{X: -2, Y: -2, W: 4, H: 4}, true},
		{8, api.Box{X: -1, Y: -4, W: 5, H: 5}, true},
		{9, api.Box{}, false},
		{10, api.Box{X: 0, Y: 3, W: 1, H: 1}, true},
		{0, api.Box{}, false}, {1, api.Box{}, false}, {-1, api.Box{}, false}, {11, api.Box{}, false}, {math.MinInt, api.Box{}, false}, {math.MaxInt, api.Box{}, false},
	} {
		if b, is := square.Box(s, x.n); b != x.want || is != x.is {
			t.Error(x.n, b, is)
		}
	}
	for i, x := range notRight() {
		for n := -1; n < 6; n++ {
			if b, is := square.Box(x, n); is || b != (api.Box{}) {
				t.Error(i, n, b, is)
			}
		}
	}
}

// TestG5Great goes by squares of all levels, of far more cells than Cells tells, and by the corners.
func TestG5Great(t *testing.T) {
	full, places := filled(300)
	for level := 1; level <= 42; level++ {
		h := 1 << (level - 1)
		if b, is := square.Box(full, places[level]); !is || b != (api.Box{X: -h, Y: -h, W: 2 * h, H: 2 * h}) {
			t.Error(level, b, is)
		}
		empty, n, _ := node.Empty(node.New(300), level)
		if b, is := square.Box(empty, n); is || b != (api.Box{}) {
			t.Error(level, b, is)
		}
		for _, c := range []api.Cell{{X: -h, Y: -h}, {X: h - 1, Y: -h}, {X: -h, Y: h - 1}, {X: h - 1, Y: h - 1}, {X: 0, Y: -1}} {
			one, n, _ := square.Set(empty, n, c, true)
			if b, is := square.Box(one, n); !is || b != (api.Box{X: c.X, Y: c.Y, W: 1, H: 1}) {
				t.Error(level, c, b, is)
			}
			two, n, _ := square.Set(one, n, api.Cell{X: h - 1, Y: 0}, true)
			want, _ := boxModel([]api.Cell{c, {X: h - 1, Y: 0}})
			if b, is := square.Box(two, n); !is || b != want {
				t.Error(level, c, b, is)
			}
		}
		// All alive in one quarter, or in two of them.
		if level == 42 {
			continue
		}
		s, dead, _ := node.Empty(full, level)
		n = places[level]
		for _, x := range []struct {
			kids [4]int
			want api.Box
		}{
			{of(n, dead, dead, dead), api.Box{X: -2 * h, Y: -2 * h, W: 2 * h, H: 2 * h}},
			{of(dead, n, dead, dead), api.Box{X: 0, Y: -2 * h, W: 2 * h, H: 2 * h}},
			{of(dead, dead, n, dead), api.Box{X: -2 * h, Y: 0, W: 2 * h, H: 2 * h}},
			{of(dead, dead, dead, n), api.Box{X: 0, Y: 0, W: 2 * h, H: 2 * h}},
			{of(dead, n, dead, n), api.Box{X: 0, Y: -2 * h, W: 2 * h, H: 4 * h}},
			{of(dead, dead, n, n), api.Box{X: -2 * h, Y: 0, W: 4 * h, H: 2 * h}},
			{of(dead, n, n, dead), api.Box{X: -2 * h, Y: -2 * h, W: 4 * h, H: 4 * h}},
		} {
			a, m, _ := node.Intern(s, x.kids)
			if b, is := square.Box(a, m); !is || b != x.want {
				t.Error(level, x.kids, b, is)
			}
		}
	}
}

// TestG6Make makes sets, and tells them again: of one level the same set is the same node, whoever asks, and in whatever order.
func TestG6Make(t *testing.T) {
	next := chance()
	s := node.New(rooms)
	type key struct {
		level int
		code  int
	}
	where := map[key]int{}
	for range 1200 {
		k := key{1 + next(5), next(1 << (1 + next(10)))}
		h := 1 << (k.level - 1)
		var l []api.Cell
		for i := range 10 {
			c := api.Cell{X: i%4 - 2, Y: i/4 - 1}
			if k.code>>i&1 == 1 && c.X >= -h && c.X < h && c.Y >= -h && c.Y < h {
				l = append(l, c)
			} else {
				k.code &^= 1 << i
			}
		}
		var n int
		var e api.Errno
		before := len(s.Nodes)
		s, n, e = square.Make(s, l, k.level)
		told, f := square.Cells(s, n)
		if e != api.OK || f != api.OK || !slices.Equal(told, l) || s.Nodes[n].Level != k.level {
			t.Fatal(l, k.level, n, e, told, f)
		}
		if m, is := where[k]; is && (m != n || len(s.Nodes) != before) {
			t.Fatal(l, k.level, n, m)
		}
		where[k] = n
	}
	places := map[int]key{}
	for k, n := range where {
		if other, is := places[n]; is {
			t.Error("one node of two", k, other)
		}
		places[n] = k
	}
	// And of any node that was there.
	for range 200 {
		s := some(next, 3+next(30), 200)
		n := 2 + next(len(s.Nodes)-2)
		l, e := square.Cells(s, n)
		if e != api.OK {
			continue
		}
		got, m, e := square.Make(s, l, s.Nodes[n].Level)
		if e != api.OK || m != n || !same(got, s) {
			t.Error(short(s), n, l, m, e)
		}
	}
}

// TestG6Set sets and takes cells, and grows, holding all against a set.
func TestG6Set(t *testing.T) {
	next := chance()
	for round := range 60 {
		level := 1 + next(40)
		s, n, _ := node.Empty(node.New(5000), level)
		var l []api.Cell
		for range 60 {
			p := whole(s.Nodes[n].Level)
			c := api.Cell{X: next(5) - 2, Y: next(5) - 2}
			if next(4) == 0 {
				c = api.Cell{X: p.x + next(p.side), Y: p.y + next(p.side)}
			}
			if !p.has(c) || !cells.Right([]api.Cell{c}) {
				continue
			}
			alive := next(3) > 0
			var e api.Errno
			s, n, e = square.Set(s, n, c, alive)
			l, _ = cells.With(l, c, alive)
			is, f := square.Get(s, n, c)
			told, g := square.Cells(s, n)
			if e != api.OK || f != api.OK || g != api.OK || is != alive || !slices.Equal(told, l) {
				t.Fatal(round, c, alive, e, is, f, told, g, l)
			}
			if next(9) == 0 && s.Nodes[n].Level < 42 {
				before := s.Nodes[n].Level
				if s, n, e = square.Grow(s, n); e != api.OK || s.Nodes[n].Level != before+1 {
					t.Fatal(round, n, e)
				}
				if told, e := square.Cells(s, n); e != api.OK || !slices.Equal(told, l) {
					t.Fatal(round, told, e, l)
				}
			}
		}
		if made, m, e := square.Make(s, l, s.Nodes[n].Level); e != api.OK || m != n || !node.Right(made) {
			t.Error(round, l, m, n, e)
		}
		if b, is := square.Box(s, n); is != (len(l) > 0) {
			t.Error(round, b, is)
		} else if want, _ := cells.Box(l); b != want {
			t.Error(round, b, want)
		}
	}
}

// TestMany goes by as many cells as there may be, which are far from each other.
func TestMany(t *testing.T) {
	next := chance()
	var l []api.Cell
	for len(l) < 2000 {
		l = append(l, api.Cell{X: next(2*far+1) - far, Y: next(2*far+1) - far})
	}
	l, _ = cells.Of(l)
	for _, x := range []struct {
		room int
		e    api.Errno
	}{{rooms, api.OK}, {30000, api.ErrFull}} {
		s, n, e := square.Make(node.New(x.room), l, 42)
		if e != x.e || e == api.OK && s.Nodes[n].Pop != len(l) {
			t.Fatal(x.room, n, e)
		}
		if e != api.OK {
			answered(t, x.room, s, s, s, n, e, node.New(x.room), 0, x.e)
			continue
		}
		reads(t, s, n, l[0], l[999], l[len(l)-1])
		for _, c := range l[:9] {
			if is, e := square.Get(s, n, c); !is || e != api.OK {
				t.Error(c, is, e)
			}
			s, n, e = square.Set(s, n, c, false)
		}
		if told, e := square.Cells(s, n); e != api.OK || !slices.Equal(told, l[9:]) {
			t.Error(len(told), e)
		}
	}
}

// spoil writes into all that a store has, its spare room too.
func spoil(s api.Store) {
	spare := s.Nodes[:cap(s.Nodes)]
	for i := range spare {
		spare[i] = api.Node{Level: -7, Kids: four(-7), Pop: -7}
	}
}

// TestR3 writes into all that comes out, and looks whether what is handed in stays as it was, behind its length too.
func TestR3(t *testing.T) {
	whole := append(store(12, four(0), of(0, 1, 0, 0), four(1), of(2, 3, 3, 2)).Nodes, api.Node{Pop: 77}, api.Node{Pop: 78}, api.Node{Pop: 79}, api.Node{Pop: 80}, api.Node{Pop: 81}, api.Node{Pop: 82})
	was := slices.Clone(whole)
	s := api.Store{Nodes: whole[:6], Room: 12}
	list := at(0, -1, -1, 0, 9, 9, 8, 8)
	listWas := slices.Clone(list)
	asIs := func() bool { return slices.Equal(whole, was) && slices.Equal(list, listWas) }
	for name, do := range map[string]func() (api.Store, int, api.Errno){
		"make":        func() (api.Store, int, api.Errno) { return square.Make(s, list[:2], 2) },
		"make there":  func() (api.Store, int, api.Errno) { return square.Make(s, list[:0], 1) },
		"set":         func() (api.Store, int, api.Errno) { return square.Set(s, 5, api.Cell{X: -2, Y: 1}, true) },
		"set there":   func() (api.Store, int, api.Errno) { return square.Set(s, 5, api.Cell{X: 1, Y: -2}, true) },
		"grow":        func() (api.Store, int, api.Errno) { return square.Grow(s, 5) },
		"grow, there": func() (api.Store, int, api.Errno) { return square.Grow(s, 2) },
	} {
		first, n, e := do()
		second, _, _ := do()
		want := copied(second)
		spoil(first)
		if third, m, f := do(); e != api.OK || f != api.OK || n != m || !same(second, want) || !same(third, want) || !asIs() {
			t.Error(name, second, third, whole, list)
		}
	}
	first, _ := square.Cells(s, 5)
	second, _ := square.Cells(s, 5)
	for i := range first[:cap(first)] {
		first[:cap(first)][i] = api.Cell{X: -7, Y: -7}
	}
	if third, e := square.Cells(s, 5); e != api.OK || len(third) != 2 || !slices.Equal(second, third) || !asIs() {
		t.Error(second, third, whole)
	}
	for name, do := range map[string]func(){
		"get":       func() { square.Get(s, 5, api.Cell{}) },
		"box":       func() { square.Box(s, 5) },
		"no set":    func() { square.Make(s, list, 9) },
		"no room":   func() { square.Make(s, list[:2], 40) },
		"too far":   func() { square.Set(s, 5, api.Cell{X: 2}, true) },
		"no place":  func() { square.Grow(s, 6) },
		"no square": func() { square.Cells(s, 1) },
		"nothing":   func() { square.Box(s, 2) },
	} {
		if do(); !asIs() {
			t.Error(name, whole, list)
		}
	}
}
