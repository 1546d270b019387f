package leap_test

import (
	"math"
	"slices"
	"testing"

	"gosper/api"
	"gosper/base"
	"gosper/cells"
	"gosper/leap"
	"gosper/life"
	"gosper/node"
	"gosper/rle"
	"gosper/square"
)

const rooms = 100000

// at is a list of cells: X, Y, X, Y and so on.
func at(l ...int) []api.Cell {
	var out []api.Cell
	for i := 0; i+1 < len(l); i += 2 {
		out = append(out, api.Cell{X: l[i], Y: l[i+1]})
	}
	return out
}

func glider() []api.Cell { return at(0, 0, 1, 1, -1, 2, 0, 2, 1, 2) }

// moved is a set, so far to the right, and as far down.
func moved(l []api.Cell, d int) []api.Cell {
	var out []api.Cell
	for _, c := range l {
		out = append(out, api.Cell{X: c.X + d, Y: c.Y + d})
	}
	return out
}

// of are four kids.
func of(a, b, c, d int) [4]int { return [4]int{a, b, c, d} }

// four are four times the same kid.
func four(n int) [4]int { return of(n, n, n, n) }

// drawn is the node of a set, of a level, in a store of so much room.
func drawn(t *testing.T, l []api.Cell, level, room int) (api.Store, int) {
	t.Helper()
	s, n, e := square.Make(node.New(room), l, level)
	if e != api.OK {
		t.Fatal(l, level, room, e)
	}
	return s, n
}

// told is the set that a node stands for.
func told(t *testing.T, s api.Store, n int) []api.Cell {
	t.Helper()
	l, e := square.Cells(s, n)
	if e != api.OK {
		t.Fatal(short(s), n, e)
	}
	return l
}

func same(a, b api.Store) bool { return a.Room == b.Room && slices.Equal(a.Nodes, b.Nodes) }

func copied(s api.Store) api.Store {
	return api.Store{Nodes: slices.Clone(s.Nodes), Room: s.Room}
}

// short is the beginning of a store, for a test's remark.
func short(s api.Store) api.Store {
	return api.Store{Nodes: s.Nodes[:min(len(s.Nodes), 9)], Room: s.Room}
}

// full is a store that has room for so many nodes more.
func full(s api.Store, more int) api.Store {
	return api.Store{Nodes: s.Nodes, Room: len(s.Nodes) + more}
}

// model makes nodes by the chapters' words, and goes out by a panic where there is no room, or no bounds. Where leaps are to be kept, there is a map of them.
type model struct {
	nodes  []api.Node
	room   int
	places map[[4]int]int
	leapt  map[[2]int]int
}

// asModel makes what a call should answer. What is asked is answered by the first error in it.
func asModel(s api.Store, n int, keeps bool, does func(*model) int) (out api.Store, at int, e api.Errno) {
	if !node.Right(s) || n < 0 || n >= len(s.Nodes) || s.Nodes[n].Level < 2 {
		return s, 0, api.ErrArg
	}
	defer func() {
		if r := recover(); r != nil {
			out, at, e = s, 0, r.(api.Errno)
		}
	}()
	m := model{nodes: slices.Clone(s.Nodes), room: s.Room, places: map[[4]int]int{}}
	if keeps {
		m.leapt = map[[2]int]int{}
	}
	for i, x := range m.nodes[2:] {
		m.places[x.Kids] = i + 2
	}
	at = does(&m)
	return api.Store{Nodes: m.nodes, Room: m.room}, at, api.OK
}

func (m *model) intern(a, b, c, d int) int {
	kids := of(a, b, c, d)
	if n, is := m.places[kids]; is {
		return n
	}
	if len(m.nodes) == m.room {
		panic(api.ErrFull)
	}
	x := api.Node{Level: m.nodes[a].Level + 1, Kids: kids}
	for _, k := range kids {
		x.Pop = min(x.Pop+m.nodes[k].Pop, 1<<62-1)
	}
	m.nodes = append(m.nodes, x)
	m.places[kids] = len(m.nodes) - 1
	return len(m.nodes) - 1
}

func (m *model) empty(level int) int {
	if level == 0 {
		return 0
	}
	e := m.empty(level - 1)
	return m.intern(e, e, e, e)
}

func (m *model) grow(n int) int {
	if m.nodes[n].Level == 42 {
		panic(api.ErrBounds)
	}
	e, k := m.empty(m.nodes[n].Level-1), m.nodes[n].Kids
	a := m.intern(e, e, e, k[0])
	b := m.intern(e, e, k[1], e)
	c := m.intern(e, k[2], e, e)
	d := m.intern(k[3], e, e, e)
	return m.intern(a, b, c, d)
}

func (m *model) sixteen(n int) [16]int {
	kids := m.nodes[n].Kids
	a, b, c, d := m.nodes[kids[0]].Kids, m.nodes[kids[1]].Kids, m.nodes[kids[2]].Kids, m.nodes[kids[3]].Kids
	return [16]int{
		a[0], a[1], b[0], b[1],
		a[2], a[3], b[2], b[3],
		c[0], c[1], d[0], d[1],
		c[2], c[3], d[2], d[3],
	}
}

func (m *model) centre(n int) int {
	x := m.sixteen(n)
	return m.intern(x[5], x[6], x[9], x[10])
}

func (m *model) nine(n int) (out [9]int) {
	x := m.sixteen(n)
	for i, c := range []int{0, 1, 2, 4, 5, 6, 8, 9, 10} {
		out[i] = m.intern(x[c], x[c+1], x[c+4], x[c+5])
	}
	return out
}

// step looks at all pairs of the sixteen, and counts those that are next to each other.
func (m *model) step(n int) int {
	x := m.sixteen(n)
	var kids []int
	for _, i := range []int{5, 6, 9, 10} {
		count, next := 0, 0
		for j := range x {
			across, down := i%4-j%4, i/4-j/4
			if i != j && across*across <= 1 && down*down <= 1 && x[j] == 1 {
				count++
			}
		}
		if count == 3 || count == 2 && x[i] == 1 {
			next = 1
		}
		kids = append(kids, next)
	}
	return m.intern(kids[0], kids[1], kids[2], kids[3])
}

func (m *model) leap(n, j int) int {
	if out, is := m.leapt[[2]int{n, j}]; is {
		return out
	}
	out := m.leapAnew(n, j)
	if m.leapt != nil {
		m.leapt[[2]int{n, j}] = out
	}
	return out
}

func (m *model) leapAnew(n, j int) int {
	k := m.nodes[n].Level
	if k == 2 {
		return m.step(n)
	}
	x := m.nine(n)
	for i := range x {
		if j == k-2 {
			x[i] = m.leap(x[i], j-1)
		} else {
			x[i] = m.centre(x[i])
		}
	}
	a := m.intern(x[0], x[1], x[3], x[4])
	b := m.intern(x[1], x[2], x[4], x[5])
	c := m.intern(x[3], x[4], x[6], x[7])
	d := m.intern(x[4], x[5], x[7], x[8])
	if j == k-2 {
		j--
	}
	a = m.leap(a, j)
	b = m.leap(b, j)
	c = m.leap(c, j)
	d = m.leap(d, j)
	return m.intern(a, b, c, d)
}

func (m *model) trim(n int) int {
	if m.nodes[n].Level == 2 {
		return n
	}
	for i, at := range m.sixteen(n) {
		if i != 5 && i != 6 && i != 9 && i != 10 && m.nodes[at].Pop != 0 {
			return n
		}
	}
	return m.trim(m.centre(n))
}

func (m *model) run(n, count int) int {
	for j := 0; j < 62; j++ {
		if count/(1<<j)%2 == 0 {
			continue
		}
		n = m.trim(n)
		n = m.grow(n)
		n = m.grow(n)
		for m.nodes[n].Level < j+3 {
			n = m.grow(n)
		}
		n = m.leap(n, j)
	}
	return m.trim(n)
}

func leapModel(s api.Store, n, j int, keeps bool) (api.Store, int, api.Errno) {
	return asModel(s, n, keeps, func(m *model) int {
		if j < 0 || j > m.nodes[n].Level-2 {
			panic(api.ErrArg)
		}
		return m.leap(n, j)
	})
}

func runModel(s api.Store, n, count int) (api.Store, int, api.Errno) {
	return asModel(s, n, true, func(m *model) int {
		if count < 0 || count > 1<<62-1 {
			panic(api.ErrArg)
		}
		return m.run(n, count)
	})
}

func trimModel(s api.Store, n int) (api.Store, int, api.Errno) {
	return asModel(s, n, true, func(m *model) int { return m.trim(n) })
}

// answered holds an answer against what it should be, and that the store that was handed in is as it was.
func answered(t *testing.T, what any, s, was, got api.Store, n int, e api.Errno, want api.Store, m int, f api.Errno) {
	t.Helper()
	if n != m || e != f || !same(got, want) {
		t.Errorf("%v of %v: %v %d %v %d, not %v %d %v %d", what, short(was), short(got), len(got.Nodes), n, e, short(want), len(want.Nodes), m, f)
	}
	if !same(s, was) {
		t.Errorf("%v of %v: written into: %v", what, short(was), short(s))
	}
}

// leapAsked holds what Leap answers against what it should be, without leaps that are kept.
func leapAsked(t *testing.T, s api.Store, n, j int) {
	t.Helper()
	leapHeld(t, s, n, j, false)
}

// leapHeld is leapAsked, where the model may keep leaps.
func leapHeld(t *testing.T, s api.Store, n, j int, keeps bool) {
	t.Helper()
	was := copied(s)
	got, m, e := leap.Leap(s, n, j)
	want, k, f := leapModel(was, n, j, keeps)
	answered(t, []any{"leap", n, j}, s, was, got, m, e, want, k, f)
}

func runAsked(t *testing.T, s api.Store, n, count int) {
	t.Helper()
	was := copied(s)
	got, m, e := leap.Run(s, n, count)
	want, k, f := runModel(was, n, count)
	answered(t, []any{"run", n, count}, s, was, got, m, e, want, k, f)
}

func trimAsked(t *testing.T, s api.Store, n int) {
	t.Helper()
	was := copied(s)
	got, m, e := leap.Trim(s, n)
	want, k, f := trimModel(was, n)
	answered(t, []any{"trim", n}, s, was, got, m, e, want, k, f)
}

// leapFails holds that Leap tells an error, and nothing else.
func leapFails(t *testing.T, what any, s api.Store, n, j int, f api.Errno) {
	t.Helper()
	was := copied(s)
	got, m, e := leap.Leap(s, n, j)
	answered(t, []any{"leap", what, n, j}, s, was, got, m, e, was, 0, f)
}

func runFails(t *testing.T, what any, s api.Store, n, count int, f api.Errno) {
	t.Helper()
	was := copied(s)
	got, m, e := leap.Run(s, n, count)
	answered(t, []any{"run", what, n, count}, s, was, got, m, e, was, 0, f)
}

func trimFails(t *testing.T, what any, s api.Store, n int, f api.Errno) {
	t.Helper()
	was := copied(s)
	got, m, e := leap.Trim(s, n)
	answered(t, []any{"trim", what, n}, s, was, got, m, e, was, 0, f)
}

// refused holds that no call takes a store, or a place in it, whatever else is asked.
func refused(t *testing.T, what any, s api.Store, n int) {
	t.Helper()
	for _, j := range []int{math.MinInt, -1, 0, 1, 40, math.MaxInt} {
		leapFails(t, what, s, n, j, api.ErrArg)
		runFails(t, what, s, n, j, api.ErrArg)
	}
	runFails(t, what, s, n, 1<<40, api.ErrArg)
	trimFails(t, what, s, n, api.ErrArg)
}

// chance gives numbers below others, always the same ones.
func chance() func(int) int {
	x := 1
	return func(below int) int {
		x = x*6364136223846793005 + 1442695040888963407
		return int(uint(x) >> 33 % uint(below))
	}
}

// store is one of the two cells, and of nodes that have some kids.
func store(room int, kids ...[4]int) api.Store {
	s := node.New(room)
	for _, k := range kids {
		s, _ = put(s, k)
	}
	return s
}

// put is a store with the node of some kids, behind all others, if it is not there, and its place.
func put(s api.Store, kids [4]int) (api.Store, int) {
	n := api.Node{Level: s.Nodes[kids[0]].Level + 1, Kids: kids}
	for _, k := range kids {
		n.Pop = min(n.Pop+s.Nodes[k].Pop, 1<<62-1)
	}
	if i := slices.IndexFunc(s.Nodes, func(m api.Node) bool { return m.Level > 0 && m.Kids == kids }); i >= 0 {
		return s, i
	}
	s.Nodes = append(s.Nodes, n)
	return s, len(s.Nodes) - 1
}

// some is a right store of so many nodes that chance takes, rather over the later ones.
func some(next func(int) int, n, room int) api.Store {
	s := node.New(room)
	for len(s.Nodes) < n {
		first := max(next(len(s.Nodes)), next(len(s.Nodes)))
		kids := four(first)
		for i := 1; i < 4; {
			if k := next(len(s.Nodes)); s.Nodes[k].Level == s.Nodes[first].Level {
				kids[i] = k
				i++
			}
		}
		s, _ = put(s, kids)
	}
	return s
}

// towers has two nodes of each level from 1 to 42, and where these are: thin ones, of which ever fewer cells are alive, or thick ones.
func towers(room int) (api.Store, [43][2]int) {
	s := node.New(room)
	places := [43][2]int{{0, 1}}
	for level := 1; level <= 42; level++ {
		a, b := places[level-1][0], places[level-1][1]
		s, places[level][0] = put(s, of(a, b, b, b))
		s, places[level][1] = put(s, of(b, a, b, a))
	}
	return s, places
}

// notRight are stores that are not right, which have a node of the level 2 at the place 3.
func notRight() []api.Store {
	sound := store(9, of(0, 1, 0, 0), four(2))
	out := []api.Store{
		{Nodes: sound.Nodes, Room: 3}, {Nodes: sound.Nodes}, {Nodes: sound.Nodes, Room: -1}, {Nodes: sound.Nodes, Room: 1}, {Nodes: sound.Nodes, Room: rooms + 1}, {Nodes: sound.Nodes, Room: math.MaxInt},
	}
	for _, n := range []api.Node{
		{Level: 2, Kids: four(2)}, {Level: 2, Kids: four(2), Pop: 5}, {Level: 1, Kids: four(2), Pop: 4}, {Level: 3, Kids: four(2), Pop: 4}, {Level: 43, Kids: four(2), Pop: 4},
		{Level: 2, Kids: four(3), Pop: 4}, {Level: 2, Kids: of(2, 2, 2, 4), Pop: 4}, {Level: 2, Kids: of(-1, 2, 2, 2), Pop: 4}, {Level: 2, Kids: of(2, 2, math.MaxInt, 2), Pop: 4},
		{Level: 2, Kids: of(2, math.MinInt, 2, 2), Pop: 4}, {Level: 2, Kids: four(0)}, {Level: 2, Kids: four(1), Pop: 4}, {Level: 2, Kids: of(2, 2, 2, 1), Pop: 4},
	} {
		s := copied(sound)
		s.Nodes[3] = n
		out = append(out, s)
	}
	for _, n := range []api.Node{{Level: 1, Kids: of(0, 1, 0, 0)}, {Level: 1, Kids: of(0, 7, 0, 0), Pop: 1}, {Level: 1, Kids: of(0, 1, 0, -1), Pop: 1}, {Level: 1, Kids: four(3), Pop: 1}} {
		s := copied(sound)
		s.Nodes[2] = n
		out = append(out, s)
	}
	for i, n := range []api.Node{{Pop: 1}, {Pop: 2}} {
		s := copied(sound)
		s.Nodes[i] = n
		out = append(out, s)
	}
	// A node that stands there twice, behind all that is asked for.
	twice := copied(sound)
	twice.Nodes = append(twice.Nodes, twice.Nodes[3])
	return append(out, twice)
}

// scattered is a set of at most so many cells, from -reach to reach: near each other, or far.
func scattered(next func(int) int, most, reach int) []api.Cell {
	side := 2*reach + 1
	middle := api.Cell{X: next(side) - reach, Y: next(side) - reach}
	var l []api.Cell
	for range next(most + 1) {
		c := api.Cell{X: middle.X + next(9) - 4, Y: middle.Y + next(9) - 4}
		if next(3) == 0 {
			c = api.Cell{X: next(side) - reach, Y: next(side) - reach}
		}
		if max(c.X, c.Y, -c.X, -c.Y) <= reach {
			l = append(l, c)
		}
	}
	l, _ = cells.Of(l)
	return l
}

// soup is a set of cells that chance takes, from -reach to reach: so many of six.
func soup(next func(int) int, reach, thick int) []api.Cell {
	var l []api.Cell
	for y := -reach; y <= reach; y++ {
		for x := -reach; x <= reach; x++ {
			if next(6) < thick {
				l = append(l, api.Cell{X: x, Y: y})
			}
		}
	}
	return l
}

// part are the cells of a set that stand in a square of so many a side, told from its middle.
func part(l []api.Cell, middle api.Cell, side int) []api.Cell {
	var out []api.Cell
	for _, c := range l {
		c = api.Cell{X: c.X - middle.X, Y: c.Y - middle.Y}
		if min(c.X, c.Y) >= -side/2 && max(c.X, c.Y) < side/2 {
			out = append(out, c)
		}
	}
	return out
}

func TestExample(t *testing.T) {
	for _, level := range []int{3, 4, 9, 42} {
		s, n := drawn(t, glider(), level, 9000)
		got, m, e := leap.Run(s, n, 4)
		if e != api.OK || !slices.Equal(told(t, got, m), moved(glider(), 1)) {
			t.Error(level, e, m)
		}
	}
}

// TestArgs goes by stores that are not right, and by places that are none of a node with a middle.
func TestArgs(t *testing.T) {
	s := store(99, of(0, 1, 0, 0), four(2), of(1, 1, 0, 0), of(2, 4, 4, 2), of(3, 5, 5, 3))
	for _, n := range []int{math.MinInt, -1 << 32, -2, -1, 0, 1, 2, 4, 7, 8, 98, 99, 1 << 32, 1<<32 + 3, rooms, math.MaxInt} {
		refused(t, "place", s, n)
		refused(t, "place, no room", full(s, 0), n)
	}
	for i, x := range notRight() {
		for _, n := range []int{math.MinInt, -1, 0, 1, 2, 3, 4, 5, math.MaxInt} {
			refused(t, i, x, n)
		}
	}
	for i, x := range []api.Store{{}, {Room: 9}, {Nodes: make([]api.Node, 1), Room: 9}, {Nodes: make([]api.Node, 4), Room: 9}} {
		for n := -1; n < 5; n++ {
			refused(t, i, x, n)
		}
	}
}

// TestI1Exponents goes by all levels: of each there are exponents from 0 to the level less 2.
func TestI1Exponents(t *testing.T) {
	s, places := towers(900)
	for level := 2; level <= 42; level++ {
		for _, j := range []int{math.MinInt, -1 << 32, -2, -1, level - 1, level, level + 1, 61, 62, 63, 64, 1 << 32, math.MaxInt} {
			leapFails(t, level, s, places[level][0], j, api.ErrArg)
			leapFails(t, level, full(s, 0), places[level][1], j, api.ErrArg)
		}
		leapHeld(t, s, places[level][0], level-2, true)
		leapHeld(t, s, places[level][1], 0, true)
		leapHeld(t, s, places[level][1], level-2, true)
		r, n := drawn(t, part(glider(), api.Cell{}, 1<<level), level, 9000)
		for j := 0; j < level-1; j += 1 + j/4 {
			leapHeld(t, r, n, j, true)
			if got, m, e := leap.Leap(r, n, j); e != api.OK || got.Nodes[m].Level != r.Nodes[n].Level-1 || !node.Right(got) {
				t.Error(level, j, e, m)
			}
		}
	}
}

// TestI1Step goes by nodes of the level 2: their leap is chapter 8's Step.
func TestI1Step(t *testing.T) {
	for bits := 0; bits < 1<<16; bits += 7 {
		var l []api.Cell
		for i := range 16 {
			if bits>>i&1 == 1 {
				l = append(l, api.Cell{X: i%4 - 2, Y: i/4 - 2})
			}
		}
		s, n := drawn(t, l, 2, 30)
		got, m, e := leap.Leap(s, n, 0)
		want, k, f := base.Step(s, n)
		answered(t, bits, s, s, got, m, e, want, k, f)
	}
}

// TestI1Some goes by stores that chance makes, by all of their nodes, and by all exponents.
func TestI1Some(t *testing.T) {
	next := chance()
	for range 150 {
		s := some(next, 3+next(40), 5000)
		for n, x := range s.Nodes {
			for j := -1; j < x.Level && x.Level < 6; j++ {
				leapAsked(t, s, n, j)
			}
			if x.Level > 5 {
				leapHeld(t, s, n, next(x.Level-1), true)
			}
		}
	}
}

// TestI1Sets goes by sets that have much in common, and by those that have little: what is kept makes no difference.
func TestI1Sets(t *testing.T) {
	next := chance()
	for level := 2; level < 7; level++ {
		for thick := range 6 {
			s, n := drawn(t, part(soup(next, 16, thick), api.Cell{}, 1<<level), level, rooms)
			for j := range level - 1 {
				leapAsked(t, s, n, j)
			}
		}
	}
	for range 60 {
		level := 7 + next(36)
		s, n := drawn(t, scattered(next, 30, 1<<min(level-2, 40)), level, rooms)
		leapHeld(t, s, n, next(level-1), true)
		leapHeld(t, s, n, level-2, true)
	}
}

// TestI1Room gives ever more room, up to what is needed: where there is too little, the store is as it was.
func TestI1Room(t *testing.T) {
	next := chance()
	for level := 2; level < 6; level++ {
		l := part(soup(next, 16, 2), api.Cell{}, 1<<level)
		for j := range level - 1 {
			s, n := drawn(t, l, level, rooms)
			got, _, _ := leapModel(s, n, j, false)
			need := len(got.Nodes) - len(s.Nodes)
			step := 1 + need/60
			for more := 0; more < need; more += step {
				leapHeld(t, full(s, more), n, j, true)
				leapFails(t, level, full(s, more), n, j, api.ErrFull)
			}
			if need > 0 {
				leapFails(t, level, full(s, need-1), n, j, api.ErrFull)
			}
			again, m, e := leap.Leap(full(s, need), n, j)
			if e != api.OK || !slices.Equal(again.Nodes, got.Nodes) || again.Room != len(got.Nodes) {
				t.Error(level, j, need, m, e)
			}
			// All that it needs is there now.
			again, k, e := leap.Leap(full(got, 0), n, j)
			if e != api.OK || k != m || !same(again, full(got, 0)) {
				t.Error(level, j, need, m, k, e)
			}
		}
	}
}

// TestI2Some goes by stores that chance makes, and by sets.
func TestI2Some(t *testing.T) {
	next := chance()
	for range 100 {
		s := some(next, 3+next(40), 5000)
		for n := range s.Nodes {
			trimAsked(t, s, n)
		}
	}
	for level := 2; level <= 42; level++ {
		for range 10 {
			s, n := drawn(t, scattered(next, 9, 1<<next(min(level-1, 41))-1), level, rooms)
			trimAsked(t, s, n)
			trimAsked(t, full(s, 0), n)
			got, m, e := leap.Trim(s, n)
			if e != api.OK || !slices.Equal(told(t, got, m), told(t, s, n)) || !node.Right(got) {
				t.Error(level, m, e)
			}
		}
	}
}

// TestI2Edges has a cell alive at each of the places about the middle of a node, and in the middle.
func TestI2Edges(t *testing.T) {
	for level := 3; level <= 8; level++ {
		side := 1 << (level - 2)
		for i := range 16 {
			for _, in := range []int{0, side/2 - 1, side - 1} {
				c := api.Cell{X: (i%4-2)*side + in, Y: (i/4-2)*side + in}
				s, n := drawn(t, []api.Cell{c}, level, 99)
				got, m, e := leap.Trim(s, n)
				middle := i == 5 || i == 6 || i == 9 || i == 10
				if e != api.OK || !slices.Equal(told(t, got, m), []api.Cell{c}) {
					t.Error(level, c, m, e)
				}
				if middle != (got.Nodes[m].Level < level) || !middle && (m != n || !same(got, s)) {
					t.Error(level, c, m, got.Nodes[m])
				}
			}
		}
	}
}

// TestI2Levels goes down to the level 2 and no further, from all levels; cells that are further out hold it up.
func TestI2Levels(t *testing.T) {
	for level := 2; level <= 42; level++ {
		s, n := drawn(t, nil, level, 60)
		got, m, e := leap.Trim(s, n)
		if e != api.OK || m != 3 || !same(got, s) {
			t.Error(level, m, e)
		}
		for to := 2; to <= min(level, 41); to++ {
			for _, c := range []api.Cell{{X: -1 << (to - 1), Y: 0}, {X: 0, Y: -1 << (to - 1)}, {X: 1<<(to-1) - 1, Y: -1}, {X: -1, Y: 1<<(to-1) - 1}} {
				s, n := drawn(t, []api.Cell{c}, level, 300)
				got, m, e := leap.Trim(s, n)
				if e != api.OK || got.Nodes[m].Level != to || !slices.Equal(told(t, got, m), []api.Cell{c}) {
					t.Error(level, to, c, m, e)
				}
			}
		}
	}
	// Of the level 42 the square is wider than what is within bounds: so one is made without cells.
	s := store(200, of(0, 0, 0, 1))
	for level := 2; level <= 42; level++ {
		last := len(s.Nodes) - 1
		var dead int
		s, dead, _ = node.Empty(s, level-1)
		s, _ = put(s, of(last, dead, dead, dead))
	}
	n := len(s.Nodes) - 1
	if got, m, e := leap.Trim(s, n); e != api.OK || m != n || !same(got, s) || s.Nodes[n].Level != 42 {
		t.Error(m, e)
	}
}

// TestI2Room has a middle that is not there yet, and ever more room for it.
func TestI2Room(t *testing.T) {
	s, n := drawn(t, at(-1, -1, 0, 0), 6, 99)
	got, m, e := leap.Trim(s, n)
	need := len(got.Nodes) - len(s.Nodes)
	if e != api.OK || need != 4 || got.Nodes[m].Level != 2 || m != len(got.Nodes)-1 {
		t.Fatal(m, e, need)
	}
	for more := range need {
		trimFails(t, more, full(s, more), n, api.ErrFull)
		trimAsked(t, full(s, more), n)
	}
	trimAsked(t, full(s, need), n)
}

// TestI3Counts goes by counts that are none, and by the greatest ones.
func TestI3Counts(t *testing.T) {
	s, n := drawn(t, glider(), 4, 30000)
	small, k := drawn(t, nil, 2, 30000)
	for _, count := range []int{math.MinInt, math.MinInt + 1, -1 << 62, -1 << 32, -2, -1, 1 << 62, 1<<62 + 1, math.MaxInt} {
		runFails(t, "count", s, n, count, api.ErrArg)
		runFails(t, "no room", full(s, 0), n, count, api.ErrArg)
		runFails(t, "dead", small, k, count, api.ErrArg)
	}
	for _, count := range []int{1 << 40, 1<<40 + 1, 1 << 41, 1 << 61, 1<<62 - 2, 1<<62 - 1} {
		runFails(t, "count", s, n, count, api.ErrBounds)
		runFails(t, "dead", small, k, count, api.ErrBounds)
		runAsked(t, s, n, count)
	}
	for _, count := range []int{0, 1, 2, 3, 1 << 39, 1<<40 - 1} {
		runAsked(t, small, k, count)
		got, m, e := leap.Run(small, k, count)
		if e != api.OK || got.Nodes[m].Level != 2 || got.Nodes[m].Pop != 0 {
			t.Error(count, m, e)
		}
	}
}

// TestI3Some goes by sets, and by counts of few and of many powers of two.
func TestI3Some(t *testing.T) {
	next := chance()
	for i := range 80 {
		level := 2 + next(6)
		s, n := drawn(t, part(soup(next, 1+next(8), 1+next(5)), api.Cell{}, 1<<level), level, rooms)
		runAsked(t, s, n, i)
		runAsked(t, s, n, next(2000))
		runAsked(t, s, n, 1<<next(12)+1<<next(12))
	}
	for range 60 {
		s := some(next, 3+next(30), 3000)
		for n, x := range s.Nodes {
			if x.Level < 8 {
				runAsked(t, s, n, next(20))
			}
		}
	}
	for range 40 {
		s, n := drawn(t, scattered(next, 12, 1<<next(38)), 40, 20000)
		runAsked(t, s, n, next(1<<20))
		runAsked(t, s, n, next(1<<20)<<20)
	}
}

// TestI3Room gives ever more room: the first error of what is done, one behind the other, ends it.
func TestI3Room(t *testing.T) {
	for _, x := range []struct {
		l            []api.Cell
		level, count int
	}{{glider(), 3, 7}, {glider(), 5, 0}, {at(-1, 0, 0, 0, 1, 0), 2, 5}, {at(-20, 0, -19, 0, -18, 0), 6, 4}, {nil, 2, 9}} {
		s, n := drawn(t, x.l, x.level, rooms)
		got, _, e := runModel(s, n, x.count)
		if e != api.OK {
			t.Fatal(x, e)
		}
		for more := 0; more <= len(got.Nodes)-len(s.Nodes)+1; more++ {
			runAsked(t, full(s, more), n, x.count)
		}
		if need := len(got.Nodes) - len(s.Nodes); need > 0 {
			runFails(t, x, full(s, need-1), n, x.count, api.ErrFull)
		}
	}
	// Where there is no room ahead of where a node would be too great, that is told.
	s, n := drawn(t, glider(), 4, 30000)
	runFails(t, "full first", full(s, 30), n, 1<<40, api.ErrFull)
	runFails(t, "full first", full(s, 1000), n, 1<<62-1, api.ErrFull)
	runFails(t, "full behind", full(s, 300), n, 1<<40, api.ErrBounds)
}

// TestI3Bounds goes by nodes that can't be trimmed, of the greatest levels: there has to be room to grow twice.
func TestI3Bounds(t *testing.T) {
	next := chance()
	for level := 37; level <= 42; level++ {
		// A corner is within bounds up to the level 41: of the level 42 a cell there is in the middle.
		far := api.Cell{X: -1 << min(level-1, 40), Y: 1<<min(level-1, 40) - 1}
		s, n := drawn(t, append(at(0, 0, 1, 0, 2, 0), far), level, 40000)
		for _, j := range []int{0, 1, 20, 38, 39, 40, 41, 61} {
			e := api.OK
			if level > 40 || j > 39 {
				e = api.ErrBounds
			}
			if _, _, f := leap.Run(s, n, 1<<j); f != e {
				t.Error(level, j, e, f)
			}
			runAsked(t, s, n, 1<<j+next(1<<j))
		}
		got, m, e := leap.Run(s, n, 0)
		if e != api.OK || !slices.Equal(told(t, got, m), told(t, s, n)) || got.Nodes[m].Level != min(level, 41) {
			t.Error(level, m, e)
		}
	}
	s, places := towers(3000)
	for level := 35; level <= 42; level++ {
		for _, n := range places[level] {
			for _, count := range []int{0, 1, 2, 3, 4, 12, 1 << 10} {
				runAsked(t, s, n, count)
			}
			if level > 40 {
				runFails(t, level, s, n, 1, api.ErrBounds)
			}
		}
	}
}

// TestI4Leap holds leaps against sets that go on about the node, wherever it stands.
func TestI4Leap(t *testing.T) {
	next := chance()
	for i := range 200 {
		level := 2 + i%5
		l := soup(next, 2+next(17), 1+next(5))
		l = l[:min(len(l), 900)]
		middle := api.Cell{X: next(9) - 4, Y: next(9) - 4}
		s, n := drawn(t, part(l, middle, 1<<level), level, rooms)
		for j := range level - 1 {
			behind, f := life.Run(l, 1<<j)
			got, m, e := leap.Leap(s, n, j)
			if e != api.OK || f != api.OK || !node.Right(got) || got.Nodes[m].Level != level-1 {
				t.Fatal(level, j, e, f)
			}
			if want := part(behind, middle, 1<<(level-1)); !slices.Equal(told(t, got, m), want) {
				t.Fatal(level, j, l, middle)
			}
		}
	}
}

// TestI4Run holds runs against sets, by each count up to some, and by what is run in two pieces.
func TestI4Run(t *testing.T) {
	next := chance()
	for range 40 {
		l := scattered(next, 25, 3+next(40))
		level := 7 + next(4)
		s, n := drawn(t, l, level, rooms)
		for _, count := range []int{0, 1, 2, 3, next(16), next(16), next(100), next(100), 128} {
			want, f := life.Run(l, count)
			got, m, e := leap.Run(s, n, count)
			if e != api.OK || f != api.OK || !node.Right(got) || !slices.Equal(told(t, got, m), want) {
				t.Fatal(l, count, e, f)
			}
			once, k, e := leap.Run(got, m, 37)
			both, o, f := leap.Run(s, n, count+37)
			if e != api.OK || f != api.OK || !slices.Equal(told(t, once, k), told(t, both, o)) {
				t.Fatal(l, count, e, f)
			}
		}
	}
}

// TestI4Far goes by patterns of which it is known where they are behind many generations.
func TestI4Far(t *testing.T) {
	s, n := drawn(t, glider(), 3, 30000)
	for _, d := range []int{1, 999, 1000000000, 1<<37 - 1, 1<<38 - 3} {
		got, m, e := leap.Run(s, n, 4*d)
		if e != api.OK || !slices.Equal(told(t, got, m), moved(glider(), d)) {
			t.Error(d, m, e)
		}
	}
	block := at(0, 0, 1, 0, 0, 1, 1, 1)
	s, n = drawn(t, block, 2, 30000)
	for _, count := range []int{0, 1, 2, 1000, 4000000000, 1<<40 - 1} {
		if got, m, e := leap.Run(s, n, count); e != api.OK || m != n || !slices.Equal(told(t, got, m), block) {
			t.Error(count, m, e)
		}
	}
	// A gun sends a glider every 30 generations: none of these is lost, however many they are.
	gun, e, _ := rle.Parse("x = 36, y = 9\n24bo$22bobo$12b2o6b2o12b2o$11bo3bo4b2o12b2o$2o8bo5bo3b2o$2o8bo3bob2o4bobo$10bo5bo7bo$11bo3bo$12b2o!")
	if e != api.OK {
		t.Fatal(e)
	}
	s, n = drawn(t, gun, 7, rooms)
	for j := range 36 {
		got, m, e := leap.Run(s, n, 30<<j)
		if e != api.OK || got.Nodes[m].Pop != len(gun)+5<<j || !node.Right(got) {
			t.Error(j, m, e)
		}
	}
}

// TestI4Turned holds what comes of a pattern against what comes of it turned over.
func TestI4Turned(t *testing.T) {
	next := chance()
	turned := func(l []api.Cell) []api.Cell {
		var out []api.Cell
		for _, c := range l {
			out = append(out, api.Cell{X: c.Y, Y: -1 - c.X})
		}
		out, _ = cells.Of(out)
		return out
	}
	for range 60 {
		l := soup(next, 2+next(4), 2+next(2))
		count := 1 + next(300)
		s, n := drawn(t, l, 5, rooms)
		r, k := drawn(t, turned(l), 5, rooms)
		got, m, e := leap.Run(s, n, count)
		other, o, f := leap.Run(r, k, count)
		if e != api.OK || f != api.OK || !slices.Equal(turned(told(t, got, m)), told(t, other, o)) {
			t.Fatal(l, count, e, f)
		}
	}
}

// TestMuch goes by patterns that grow until there is no room: each node is made once, so that this ends.
func TestMuch(t *testing.T) {
	next := chance()
	l := soup(next, 20, 2)
	s, n := drawn(t, l, 12, rooms)
	runFails(t, "grows", api.Store{Nodes: s.Nodes, Room: 60000}, n, 1<<40-1, api.ErrFull)
	for _, j := range []int{0, 5, 9} {
		got, m, e := leap.Leap(s, n, j)
		if e != api.OK || got.Nodes[m].Level != 11 || !node.Right(got) {
			t.Error(j, m, e, len(got.Nodes))
		}
	}
}

// spoil writes into all that a store has, its spare room too.
func spoil(s api.Store) {
	spare := s.Nodes[:cap(s.Nodes)]
	for i := range spare {
		spare[i] = api.Node{Level: -7, Kids: four(-7), Pop: -7}
	}
}

// TestR3 writes into all that comes out, and looks whether what is handed in stays as it was, behind its length too.
func TestR3(t *testing.T) {
	s, n := drawn(t, glider(), 4, 9000)
	size := len(s.Nodes)
	there, _, _ := leap.Leap(s, n, 2)
	there, _, _ = leap.Run(there, n, 7)
	for range 9 {
		s.Nodes = append(s.Nodes, api.Node{Pop: 70})
		there.Nodes = append(there.Nodes, api.Node{Pop: 70})
	}
	whole, more := s.Nodes, there.Nodes
	was, moreWas := slices.Clone(whole), slices.Clone(more)
	s.Nodes, there.Nodes = s.Nodes[:size], there.Nodes[:len(more)-9]
	for name, do := range map[string]func() (api.Store, int, api.Errno){
		"leap":        func() (api.Store, int, api.Errno) { return leap.Leap(s, n, 2) },
		"leap, slow":  func() (api.Store, int, api.Errno) { return leap.Leap(s, n, 0) },
		"leap, there": func() (api.Store, int, api.Errno) { return leap.Leap(there, n, 2) },
		"run":         func() (api.Store, int, api.Errno) { return leap.Run(s, n, 9) },
		"run, there":  func() (api.Store, int, api.Errno) { return leap.Run(there, n, 7) },
		"run, not":    func() (api.Store, int, api.Errno) { return leap.Run(s, n, 0) },
		"trim":        func() (api.Store, int, api.Errno) { return leap.Trim(s, n) },
		"trim, there": func() (api.Store, int, api.Errno) { return leap.Trim(there, n) },
	} {
		first, m, e := do()
		second, _, _ := do()
		want := copied(second)
		spoil(first)
		third, k, f := do()
		if e != api.OK || f != api.OK || m != k || !same(second, want) || !same(third, want) || !slices.Equal(whole, was) || !slices.Equal(more, moreWas) {
			t.Error(name, e, m, k)
		}
	}
	for name, do := range map[string]func(){
		"no place":      func() { leap.Leap(s, size, 0) },
		"no exponent":   func() { leap.Leap(s, n, 3) },
		"no room":       func() { leap.Leap(full(s, 0), n, 0) },
		"no count":      func() { leap.Run(s, n, -1) },
		"too far":       func() { leap.Run(s, n, 1<<40) },
		"no room, run":  func() { leap.Run(full(s, 3), n, 1) },
		"no room, trim": func() { leap.Trim(full(s, 0), n) },
	} {
		if do(); !slices.Equal(whole, was) {
			t.Error(name)
		}
	}
}
