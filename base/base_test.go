package base_test

import (
	"math"
	"slices"
	"testing"

	"gosper/api"
	"gosper/base"
	"gosper/cells"
	"gosper/life"
	"gosper/node"
	"gosper/square"
)

const rooms = 100000

// at is a list of cells: X, Y, X, Y and so on.
func at(l ...int) []api.Cell {
	var out []api.Cell
	for i := 0; i+1 < len(l); i += 2 {
		out = append(out, api.Cell{X: l[i], Y: l[i+1]})
	}
	return out
}

// of are four kids.
func of(a, b, c, d int) [4]int { return [4]int{a, b, c, d} }

// four are four times the same kid.
func four(n int) [4]int { return of(n, n, n, n) }

// store is one of the two cells, and of nodes that have some kids.
func store(room int, kids ...[4]int) api.Store {
	s := node.New(room)
	for _, k := range kids {
		s, _ = put(s, k)
	}
	return s
}

// put is a store with the node of some kids, behind all others, if it is not there, and its place.
func put(s api.Store, kids [4]int) (api.Store, int) {
	n := api.Node{Level: s.Nodes[kids[0]].Level + 1, Kids: kids}
	for _, k := range kids {
		n.Pop = min(n.Pop+s.Nodes[k].Pop, 1<<62-1)
	}
	if i := slices.IndexFunc(s.Nodes, func(m api.Node) bool { return m.Level > 0 && m.Kids == kids }); i >= 0 {
		return s, i
	}
	s.Nodes = append(s.Nodes, n)
	return s, len(s.Nodes) - 1
}

// sixteenModel are the sixteen of a node, as the chapter tells them.
func sixteenModel(s api.Store, n int) [16]int {
	kids := s.Nodes[n].Kids
	a, b, c, d := s.Nodes[kids[0]].Kids, s.Nodes[kids[1]].Kids, s.Nodes[kids[2]].Kids, s.Nodes[kids[3]].Kids
	return [16]int{
		a[0], a[1], b[0], b[1],
		a[2], a[3], b[2], b[3],
		c[0], c[1], d[0], d[1],
		c[2], c[3], d[2], d[3],
	}
}

// good tells whether a store is right, and a place in it one of a node of a level from 2 on.
func good(s api.Store, n int) bool {
	return node.Right(s) && n >= 0 && n < len(s.Nodes) && s.Nodes[n].Level >= 2
}

// squaresModel is what should come of squares of a node's sixteen, each told by the place of its top left one of these.
func squaresModel(s api.Store, n int, corners ...int) (api.Store, []int, api.Errno) {
	if !good(s, n) {
		return s, make([]int, len(corners)), api.ErrArg
	}
	x := sixteenModel(s, n)
	out := s
	var l []int
	for _, i := range corners {
		var m int
		var e api.Errno
		if out, m, e = node.Intern(out, of(x[i], x[i+1], x[i+4], x[i+5])); e != api.OK {
			return s, make([]int, len(corners)), e
		}
		l = append(l, m)
	}
	return out, l, api.OK
}

func centreModel(s api.Store, n int) (api.Store, int, api.Errno) {
	out, l, e := squaresModel(s, n, 5)
	return out, l[0], e
}

func nineModel(s api.Store, n int) (api.Store, [9]int, api.Errno) {
	out, l, e := squaresModel(s, n, 0, 1, 2, 4, 5, 6, 8, 9, 10)
	return out, [9]int(l), e
}

// stepModel is what Step should answer: all pairs of the sixteen are looked at, and those that are next to each other counted.
func stepModel(s api.Store, n int) (api.Store, int, api.Errno) {
	if !good(s, n) || s.Nodes[n].Level != 2 {
		return s, 0, api.ErrArg
	}
	x := sixteenModel(s, n)
	var kids []int
	for _, i := range []int{5, 6, 9, 10} {
		count := 0
		for j := range x {
			across, down := i%4-j%4, i/4-j/4
			if i != j && across*across <= 1 && down*down <= 1 && x[j] == 1 {
				count++
			}
		}
		switch {
		case count == 3, count == 2 && x[i] == 1:
			kids = append(kids, 1)
		default:
			kids = append(kids, 0)
		}
	}
	out, m, e := node.Intern(s, [4]int(kids))
	if e != api.OK {
		return s, 0, e
	}
	return out, m, api.OK
}

func same(a, b api.Store) bool { return a.Room == b.Room && slices.Equal(a.Nodes, b.Nodes) }

func copied(s api.Store) api.Store {
	return api.Store{Nodes: slices.Clone(s.Nodes), Room: s.Room}
}

// short is the beginning of a store, for a test's remark.
func short(s api.Store) api.Store {
	return api.Store{Nodes: s.Nodes[:min(len(s.Nodes), 9)], Room: s.Room}
}

// answered holds an answer against what it should be, and that the store that was handed in is as it was.
func answered[T int | [9]int](t *testing.T, what any, s, was, got api.Store, n T, e api.Errno, want api.Store, m T, f api.Errno) {
	t.Helper()
	if n != m || e != f || !same(got, want) {
		t.Errorf("%v of %v: %v %v %d, not %v %v %d", what, short(was), short(got), n, e, short(want), m, f)
	}
	if !same(s, was) {
		t.Errorf("%v of %v: written into: %v", what, short(was), short(s))
	}
}

// asked holds what all calls answer of a place, which may be none, against what this should be.
func asked(t *testing.T, s api.Store, n int) {
	t.Helper()
	was := copied(s)
	got, m, e := base.Centre(s, n)
	want, k, f := centreModel(was, n)
	answered(t, []any{"centre", n}, s, was, got, m, e, want, k, f)
	got, l, e := base.Nine(s, n)
	want, nine, f := nineModel(was, n)
	answered(t, []any{"nine", n}, s, was, got, l, e, want, nine, f)
	got, m, e = base.Step(s, n)
	want, k, f = stepModel(was, n)
	answered(t, []any{"step", n}, s, was, got, m, e, want, k, f)
}

// refused holds that no call takes a store, or a place in it.
func refused(t *testing.T, what any, s api.Store, n int) {
	t.Helper()
	was := copied(s)
	got, m, e := base.Centre(s, n)
	answered(t, []any{"centre", what, n}, s, was, got, m, e, was, 0, api.ErrArg)
	got, l, e := base.Nine(s, n)
	answered(t, []any{"nine", what, n}, s, was, got, l, e, was, [9]int{}, api.ErrArg)
	unstepped(t, what, s, n)
}

// unstepped holds that Step does not take a store, or a place in it.
func unstepped(t *testing.T, what any, s api.Store, n int) {
	t.Helper()
	was := copied(s)
	got, m, e := base.Step(s, n)
	answered(t, []any{"step", what, n}, s, was, got, m, e, was, 0, api.ErrArg)
}

// chance gives numbers below others, always the same ones.
func chance() func(int) int {
	x := 1
	return func(below int) int {
		x = x*6364136223846793005 + 1442695040888963407
		return int(uint(x) >> 33 % uint(below))
	}
}

// some is a right store of so many nodes that chance takes, rather over the later ones.
func some(next func(int) int, n, room int) api.Store {
	s := node.New(room)
	for len(s.Nodes) < n {
		first := max(next(len(s.Nodes)), next(len(s.Nodes)))
		kids := four(first)
		for i := 1; i < 4; {
			if k := next(len(s.Nodes)); s.Nodes[k].Level == s.Nodes[first].Level {
				kids[i] = k
				i++
			}
		}
		s, _ = put(s, kids)
	}
	return s
}

// towers has two nodes of each level from 1 to 42, whose sixteen are of two kinds; and where these are.
func towers(room int) (api.Store, [43][2]int) {
	s := node.New(room)
	places := [43][2]int{{0, 1}}
	for level := 1; level <= 42; level++ {
		a, b := places[level-1][0], places[level-1][1]
		s, places[level][0] = put(s, of(a, b, b, b))
		s, places[level][1] = put(s, of(b, a, b, a))
	}
	return s, places
}

// pieces are all nodes of the level 1, at the places from 2 to 17: the piece 2 + i stands for the bits of i, from the least one on.
func pieces() [][4]int {
	var out [][4]int
	for i := range 16 {
		out = append(out, of(i&1, i>>1&1, i>>2&1, i>>3&1))
	}
	return out
}

// sheet is a store with a node whose sixteen are unlike each other: 2 to 17, row by row; that node's place is 22, its kids' are 18 to 21.
func sheet(room int) api.Store {
	return store(room, append(pieces(), of(2, 3, 6, 7), of(4, 5, 8, 9), of(10, 11, 14, 15), of(12, 13, 16, 17), of(18, 19, 20, 21))...)
}

// notRight are stores that are not right, which have a node of the level 2 at the place 3.
func notRight() []api.Store {
	sound := store(9, of(0, 1, 0, 0), four(2))
	out := []api.Store{
		{Nodes: sound.Nodes, Room: 3}, {Nodes: sound.Nodes}, {Nodes: sound.Nodes, Room: -1}, {Nodes: sound.Nodes, Room: 1}, {Nodes: sound.Nodes, Room: rooms + 1}, {Nodes: sound.Nodes, Room: math.MaxInt},
	}
	for _, n := range []api.Node{
		{Level: 2, Kids: four(2)}, {Level: 2, Kids: four(2), Pop: 5}, {Level: 1, Kids: four(2), Pop: 4}, {Level: 3, Kids: four(2), Pop: 4},
		{Level: 2, Kids: four(3), Pop: 4}, {Level: 2, Kids: of(2, 2, 2, 4), Pop: 4}, {Level: 2, Kids: of(-1, 2, 2, 2), Pop: 4}, {Level: 2, Kids: of(2, 2, math.MaxInt, 2), Pop: 4},
		{Level: 2, Kids: of(2, math.MinInt, 2, 2), Pop: 4}, {Level: 2, Kids: four(0)}, {Level: 2, Kids: four(1), Pop: 4}, {Level: 2, Kids: of(2, 2, 2, 1), Pop: 4},
	} {
		s := copied(sound)
		s.Nodes[3] = n
		out = append(out, s)
	}
	for _, n := range []api.Node{{Level: 1, Kids: of(0, 1, 0, 0)}, {Level: 1, Kids: of(0, 7, 0, 0), Pop: 1}, {Level: 1, Kids: of(0, 1, 0, -1), Pop: 1}, {Level: 1, Kids: four(3), Pop: 1}} {
		s := copied(sound)
		s.Nodes[2] = n
		out = append(out, s)
	}
	for i, n := range []api.Node{{Pop: 1}, {Pop: 2}} {
		s := copied(sound)
		s.Nodes[i] = n
		out = append(out, s)
	}
	// A node that stands there twice, behind all that is asked for.
	twice := copied(sound)
	twice.Nodes = append(twice.Nodes, twice.Nodes[3])
	return append(out, twice)
}

func TestExample(t *testing.T) {
	s, n, e := square.Make(node.New(60), at(-1, 0, 0, 0, 1, 0), 2)
	if e != api.OK {
		t.Fatal(e)
	}
	got, m, e := base.Step(s, n)
	if e != api.OK || m != len(s.Nodes) || len(got.Nodes) != m+1 || got.Nodes[m] != (api.Node{Level: 1, Kids: of(0, 1, 0, 1), Pop: 2}) || !same(api.Store{Nodes: got.Nodes[:m], Room: 60}, s) || got.Room != 60 {
		t.Error(got, m, e)
	}
}

func TestH1(t *testing.T) {
	s := store(99, of(0, 1, 0, 0), four(2), of(1, 1, 0, 0), of(2, 4, 4, 2), of(3, 5, 5, 3))
	for _, n := range []int{math.MinInt, -1 << 32, -2, -1, 0, 1, 2, 4, 7, 8, 98, 99, 1 << 32, 1<<32 + 3, rooms, math.MaxInt} {
		refused(t, "place", s, n)
	}
	for i, x := range notRight() {
		for _, n := range []int{math.MinInt, -1, 0, 1, 2, 3, 4, 5, math.MaxInt} {
			refused(t, i, x, n)
		}
	}
	for i, x := range []api.Store{{}, {Room: 9}, {Nodes: make([]api.Node, 1), Room: 9}, {Nodes: make([]api.Node, 4), Room: 9}} {
		for n := -1; n < 5; n++ {
			refused(t, i, x, n)
		}
	}
	for n := 2; n < 7; n++ {
		asked(t, s, n)
	}
}

// TestH1Levels goes by all levels: of those from 3 on there is no Step, with room or without.
func TestH1Levels(t *testing.T) {
	s, places := towers(300)
	full := copied(s)
	full.Room = len(s.Nodes)
	for level, x := range places {
		for _, n := range x {
			if level < 2 {
				refused(t, level, s, n)
				refused(t, level, full, n)
				continue
			}
			asked(t, s, n)
			if level > 2 {
				unstepped(t, level, s, n)
				unstepped(t, level, full, n)
			}
			if got, m, e := base.Centre(s, n); e != api.OK || got.Nodes[m].Level != level-1 {
				t.Error(level, m, e)
			}
			got, l, e := base.Nine(s, n)
			for _, m := range l {
				if e != api.OK || got.Nodes[m].Level != level-1 {
					t.Error(level, l, e)
				}
			}
		}
	}
	// Of the level 2 there is one.
	for _, n := range places[2] {
		if got, m, e := base.Step(s, n); e != api.OK || got.Nodes[m].Level != 1 {
			t.Error(m, e)
		}
	}
}

func TestH2Centre(t *testing.T) {
	s := sheet(99)
	got, n, e := base.Centre(s, 22)
	want := store(99, append(pieces(), of(2, 3, 6, 7), of(4, 5, 8, 9), of(10, 11, 14, 15), of(12, 13, 16, 17), of(18, 19, 20, 21), of(7, 8, 11, 12))...)
	answered(t, "sheet", s, sheet(99), got, n, e, want, 23, api.OK)
	// What is there, is found; without room too.
	for _, room := range []int{24, 99} {
		s := want
		s.Room = room
		got, n, e = base.Centre(s, 22)
		answered(t, room, s, copied(s), got, n, e, s, 23, api.OK)
	}
	full := sheet(23)
	got, n, e = base.Centre(full, 22)
	answered(t, "full", full, sheet(23), got, n, e, full, 0, api.ErrFull)
	// The middle may be a node that is ahead, or one that nothing stands for yet.
	for _, x := range []struct {
		kids    [][4]int
		n, want int
		more    [][4]int
	}{
		{[][4]int{four(0), four(2)}, 3, 2, nil},
		{[][4]int{of(1, 0, 0, 1), four(2)}, 3, 2, nil},
		{[][4]int{of(1, 0, 0, 0), four(2)}, 3, 4, [][4]int{of(0, 0, 0, 1)}},
		{[][4]int{of(0, 0, 0, 1), of(0, 0, 1, 0), of(0, 1, 0, 0), of(1, 0, 0, 0), of(2, 3, 4, 5)}, 6, 7, [][4]int{four(1)}},
		{[][4]int{of(0, 0, 0, 1), of(1, 0, 0, 0), four(1), of(2, 3, 2, 3)}, 5, 6, [][4]int{of(1, 0, 0, 1)}},
		{[][4]int{of(0, 0, 0, 1), of(1, 0, 0, 0), of(1, 0, 0, 1), of(2, 3, 2, 3)}, 5, 4, nil},
	} {
		s := store(30, x.kids...)
		got, n, e := base.Centre(s, x.n)
		answered(t, x.kids, s, store(30, x.kids...), got, n, e, store(30, slices.Concat(x.kids, x.more)...), x.want, api.OK)
	}
}

func TestH2Nine(t *testing.T) {
	s := sheet(99)
	got, l, e := base.Nine(s, 22)
	want := store(99, append(pieces(), of(2, 3, 6, 7), of(4, 5, 8, 9), of(10, 11, 14, 15), of(12, 13, 16, 17), of(18, 19, 20, 21),
		of(3, 4, 7, 8), of(6, 7, 10, 11), of(7, 8, 11, 12), of(8, 9, 12, 13), of(11, 12, 15, 16))...)
	where := [9]int{18, 23, 19, 24, 25, 26, 20, 27, 21}
	answered(t, "sheet", s, sheet(99), got, l, e, want, where, api.OK)
	// What is there, is found; without room too.
	for _, room := range []int{28, 99} {
		s := want
		s.Room = room
		got, l, e := base.Nine(s, 22)
		answered(t, room, s, copied(s), got, l, e, s, where, api.OK)
	}
	// A room for less than all that is needed is none.
	for room := 23; room < 28; room++ {
		full := sheet(room)
		got, l, e := base.Nine(full, 22)
		answered(t, room, full, sheet(room), got, l, e, full, [9]int{}, api.ErrFull)
	}
	// One of them that is there already stands where it stood.
	s = store(99, append(pieces(), of(7, 8, 11, 12), of(2, 3, 6, 7), of(4, 5, 8, 9), of(10, 11, 14, 15), of(12, 13, 16, 17), of(19, 20, 21, 22), of(11, 12, 15, 16))...)
	got, l, e = base.Nine(s, 23)
	want, _ = put(s, of(3, 4, 7, 8))
	want, _ = put(want, of(6, 7, 10, 11))
	want, _ = put(want, of(8, 9, 12, 13))
	answered(t, "some are there", s, copied(s), got, l, e, want, [9]int{19, 25, 20, 26, 18, 27, 21, 24, 22}, api.OK)
}

// TestH2Same goes by nodes all of whose sixteen are the same one: so are the nine, and the middle.
func TestH2Same(t *testing.T) {
	for _, first := range []int{0, 1} {
		s := node.New(100)
		n := first
		for level := 1; level <= 42; level++ {
			below := n
			s, n = put(s, four(n))
			if level < 2 {
				continue
			}
			full := copied(s)
			full.Room = len(s.Nodes)
			for _, x := range []api.Store{s, full} {
				got, l, e := base.Nine(x, n)
				answered(t, level, x, copied(x), got, l, e, x, [9]int{below, below, below, below, below, below, below, below, below}, api.OK)
				got, m, e := base.Centre(x, n)
				answered(t, level, x, copied(x), got, m, e, x, below, api.OK)
			}
		}
	}
}

// TestH2Places goes by nodes of which one of the sixteen is unlike all others: it stands in those of the nine that reach to it, and where it stood.
func TestH2Places(t *testing.T) {
	tall, places := towers(500)
	for level := 2; level <= 42; level++ {
		a, b := places[level-2][0], places[level-2][1]
		for i := range 16 {
			kids := [4][4]int{four(a), four(a), four(a), four(a)}
			kids[i/8*2+i%4/2][i/4%2*2+i%2] = b
			s, n := tall, [4]int{}
			for j, k := range kids {
				s, n[j] = put(s, k)
			}
			s, top := put(s, n)
			asked(t, s, top)
			got, l, e := base.Nine(s, top)
			if e != api.OK {
				t.Fatal(level, i, e)
			}
			for j, m := range l {
				want := four(a)
				if down, right := i/4-j/3, i%4-j%3; down >= 0 && down < 2 && right >= 0 && right < 2 {
					want[down*2+right] = b
				}
				if got.Nodes[m].Kids != want {
					t.Error(level, i, j, got.Nodes[m].Kids, want)
				}
			}
		}
	}
}

// TestRoom goes by all rooms, up to one in which there is enough of it (H2, H3).
func TestRoom(t *testing.T) {
	for _, kids := range [][][4]int{
		{of(0, 1, 0, 0), four(2)},
		{of(0, 1, 1, 0), of(1, 0, 1, 0), of(2, 3, 3, 2), of(3, 2, 2, 3), of(4, 5, 5, 4)},
		{four(1), of(0, 1, 1, 1), of(0, 0, 1, 1), of(1, 0, 0, 0), of(2, 3, 4, 5), of(5, 4, 3, 2), of(2, 4, 2, 4), of(6, 7, 8, 7), of(7, 6, 6, 8), of(9, 10, 9, 10)},
	} {
		for room := len(kids) + 2; room < len(kids)+15; room++ {
			s := store(room, kids...)
			for n := range s.Nodes {
				asked(t, s, n)
			}
		}
	}
}

// TestModel goes by nodes that chance takes, in stores with room, and with less (H1 to H3).
func TestModel(t *testing.T) {
	next := chance()
	seen := map[api.Errno]int{}
	for range 300 {
		n := 3 + next(40)
		s := some(next, n, n+next(9))
		for n := -1; n <= len(s.Nodes); n++ {
			asked(t, s, n)
			_, _, e := base.Nine(s, n)
			seen[e]++
		}
	}
	for _, e := range []api.Errno{api.OK, api.ErrArg, api.ErrFull} {
		if seen[e] < 300 {
			t.Error("seldom met", e, seen[e])
		}
	}
}

// TestAll goes by all that may be alive in a node of the level 2 (H2, H3).
func TestAll(t *testing.T) {
	for code := range 1 << 16 {
		var l []api.Cell
		for i := range 16 {
			if code>>i&1 == 1 {
				l = append(l, api.Cell{X: i%4 - 2, Y: i/4 - 2})
			}
		}
		s, n, e := square.Make(node.New(20), l, 2)
		if e != api.OK || sixteenModel(s, n)[code%16] != code>>(code%16)&1 {
			t.Fatal(l, s, n, e)
		}
		asked(t, s, n)
	}
}

// drawn is a store with a node of the level 2, told row by row, and its place.
func drawn(t *testing.T, rows string) (api.Store, int) {
	t.Helper()
	var l []api.Cell
	for i, r := range []byte(rows) {
		if r == '*' {
			l = append(l, api.Cell{X: i%5 - 2, Y: i/5 - 2})
		}
	}
	s, n, e := square.Make(node.New(20), l, 2)
	if e != api.OK {
		t.Fatal(rows, e)
	}
	return s, n
}

func TestH3(t *testing.T) {
	for _, x := range []struct {
		rows string
		kids [4]int
	}{
		{".... .... .... ....", four(0)},
		{"**** **** **** ****", four(0)},
		{"**** *..* *..* ****", four(0)},
		{".... .**. .**. ....", four(1)},
		{".... .... ***. ....", of(1, 0, 1, 0)},
		{".... .... .*** ....", of(0, 1, 0, 1)},
		{".... ***. .... ....", of(1, 0, 1, 0)},
		{".*.. .*.. .*.. ....", of(1, 1, 0, 0)},
		{"***. .... .... ....", of(1, 0, 0, 0)},
		{".*** .... .... ....", of(0, 1, 0, 0)},
		{".... .... .... ***.", of(0, 0, 1, 0)},
		{"...* ...* ...* ....", of(0, 1, 0, 0)},
		{"**.. *... .... ....", of(1, 0, 0, 0)},
		{"..** ...* .... ....", of(0, 1, 0, 0)},
		{".... .... *... **..", of(0, 0, 1, 0)},
		{".... .... ...* ..**", of(0, 0, 0, 1)},
		{"..*. *.*. .**. ....", of(0, 1, 1, 1)},
		{".**. *..* .**. ....", of(0, 0, 1, 1)},
	} {
		s, n := drawn(t, x.rows)
		got, m, e := base.Step(s, n)
		want, k := put(s, x.kids)
		answered(t, x.rows, s, copied(s), got, m, e, want, k, api.OK)
	}
}

// TestH3Room goes by what Step tells where there is no room: what is there, is found.
func TestH3Room(t *testing.T) {
	for _, x := range []struct {
		rows string
		e    api.Errno
	}{
		{".... .... .... ....", api.OK}, {".... .**. .**. ....", api.ErrFull}, {"**** **** **** ****", api.ErrFull}, {".... .... .*** ....", api.ErrFull}, {"*.*. .*.. .... ....", api.OK},
	} {
		s, n := drawn(t, x.rows)
		s.Room = len(s.Nodes)
		asked(t, s, n)
		if got, m, e := base.Step(s, n); e != x.e || e == api.OK && !same(got, s) || e != api.OK && m != 0 {
			t.Error(x.rows, got, m, e)
		}
	}
}

// scattered is a set of at most so many cells of a level's square that are within bounds: near each other, or far.
func scattered(next func(int) int, most, level int) []api.Cell {
	half := 1 << (level - 1)
	in := func(n int) bool { return n >= -half && n < half }
	middle := api.Cell{X: next(2*half) - half, Y: next(2*half) - half}
	var l []api.Cell
	for range next(most + 1) {
		c := api.Cell{X: middle.X + next(9) - 4, Y: middle.Y + next(9) - 4}
		if next(3) == 0 {
			c = api.Cell{X: next(2*half) - half, Y: next(2*half) - half}
		}
		if in(c.X) && in(c.Y) && cells.Right([]api.Cell{c}) {
			l = append(l, c)
		}
	}
	l, _ = cells.Of(l)
	return l
}

// part are the cells of a set that stand in a square of so many a side, told from its middle.
func part(l []api.Cell, middle api.Cell, side int) []api.Cell {
	var out []api.Cell
	for _, c := range l {
		c = api.Cell{X: c.X - middle.X, Y: c.Y - middle.Y}
		if min(c.X, c.Y) >= -side/2 && max(c.X, c.Y) < side/2 {
			out = append(out, c)
		}
	}
	return out
}

// TestH4Stand holds what the middle, and the nine, stand for against what stands there within the node.
func TestH4Stand(t *testing.T) {
	next := chance()
	for i := range 600 {
		level := 2 + i%41
		l := scattered(next, 40, level)
		s, n, e := square.Make(node.New(rooms), l, level)
		if e != api.OK {
			t.Fatal(l, level, e)
		}
		got, m, e := base.Centre(s, n)
		told, f := square.Cells(got, m)
		if want := part(l, api.Cell{}, 1<<(level-1)); e != api.OK || f != api.OK || !slices.Equal(told, want) || !node.Right(got) {
			t.Error(l, level, told, want, e, f)
		}
		got, nine, e := base.Nine(s, n)
		if e != api.OK || !node.Right(got) {
			t.Fatal(l, level, e)
		}
		for j, m := range nine {
			aside := 1 << (level - 2)
			want := part(l, api.Cell{X: (j%3 - 1) * aside, Y: (j/3 - 1) * aside}, 1<<(level-1))
			if told, f := square.Cells(got, m); f != api.OK || !slices.Equal(told, want) {
				t.Error(l, level, j, told, want, f)
			}
		}
		// The fifth of the nine is the middle.
		if again, m, e := base.Centre(got, n); e != api.OK || m != nine[4] || !same(again, got) {
			t.Error(l, level, m, nine, e)
		}
	}
}

// TestH4Step holds Step against a generation of sets that go on about the node, wherever it stands.
func TestH4Step(t *testing.T) {
	next := chance()
	for range 3000 {
		var l []api.Cell
		thick := 1 + next(5)
		for y := -5; y < 5; y++ {
			for x := -5; x < 5; x++ {
				if next(6) < thick {
					l = append(l, api.Cell{X: x, Y: y})
				}
			}
		}
		behind, f := life.Next(l)
		middle := api.Cell{X: next(5) - 2, Y: next(5) - 2}
		s, n, e := square.Make(node.New(20), part(l, middle, 4), 2)
		if e != api.OK || f != api.OK {
			t.Fatal(l, e, f)
		}
		got, m, e := base.Step(s, n)
		told, f := square.Cells(got, m)
		if want := part(behind, middle, 2); e != api.OK || f != api.OK || !slices.Equal(told, want) || !node.Right(got) || got.Nodes[m].Level != 1 {
			t.Fatal(l, middle, told, want, e, f)
		}
	}
}

// TestMaker goes by makers that work in one index: each finds what the other ones made.
func TestMaker(t *testing.T) {
	s := sheet(99)
	x, right := node.IndexOf(s)
	m, other := base.Maker{Index: &x}, square.Maker{Index: &x}
	nine, e := m.Nine(22)
	if !right || e != api.OK || len(x.Nodes) != 28 || len(s.Nodes) != 23 {
		t.Fatal(right, nine, e, len(x.Nodes))
	}
	if n, e := m.Centre(22); n != nine[4] || e != api.OK || len(x.Nodes) != 28 {
		t.Error(n, e)
	}
	n, e := m.Step(nine[4])
	if at, f := m.Intern(x.Nodes[n].Kids); e != api.OK || f != api.OK || at != n {
		t.Error(n, e, at, f)
	}
	n, e = other.Grow(22)
	if e != api.OK || n != len(x.Nodes)-1 {
		t.Fatal(n, e)
	}
	if at, e := m.Centre(n); at != 22 || e != api.OK || len(x.Nodes) != n+1 {
		t.Error(at, e)
	}
	for _, n := range []int{-1, 0, 1, 2, len(x.Nodes), math.MinInt, math.MaxInt} {
		c, e := m.Centre(n)
		l, f := m.Nine(n)
		k, g := m.Step(n)
		if c != 0 || l != [9]int{} || k != 0 || e != api.ErrArg || f != api.ErrArg || g != api.ErrArg {
			t.Error(n, c, l, k, e, f, g)
		}
	}
	if !node.Right(x.Store) {
		t.Error(x.Store)
	}
	// Without room for all nine, none is told, though some may stand there.
	x, _ = node.IndexOf(sheet(25))
	if nine, e := (base.Maker{Index: &x}).Nine(22); nine != [9]int{} || e != api.ErrFull {
		t.Error(nine, e)
	}
}

// spoil writes into all that a store has, its spare room too.
func spoil(s api.Store) {
	spare := s.Nodes[:cap(s.Nodes)]
	for i := range spare {
		spare[i] = api.Node{Level: -7, Kids: four(-7), Pop: -7}
	}
}

// TestR3 writes into all that comes out, and looks whether what is handed in stays as it was, behind its length too.
func TestR3(t *testing.T) {
	kids := [][4]int{of(0, 1, 0, 0), of(0, 1, 1, 0), of(1, 1, 0, 1), four(2), of(2, 3, 4, 3), of(5, 6, 6, 5), four(0), four(8)}
	whole := store(99, kids...).Nodes
	for i := range 12 {
		whole = append(whole, api.Node{Pop: 70 + i})
	}
	was := slices.Clone(whole)
	s := api.Store{Nodes: whole[:10], Room: 99}
	nine := func(n int) (api.Store, int, api.Errno) {
		out, l, e := base.Nine(s, n)
		return out, l[4], e
	}
	for name, do := range map[string]func() (api.Store, int, api.Errno){
		"centre":       func() (api.Store, int, api.Errno) { return base.Centre(s, 7) },
		"centre there": func() (api.Store, int, api.Errno) { return base.Centre(s, 9) },
		"nine":         func() (api.Store, int, api.Errno) { return nine(7) },
		"nine there":   func() (api.Store, int, api.Errno) { return nine(9) },
		"step":         func() (api.Store, int, api.Errno) { return base.Step(s, 6) },
		"step there":   func() (api.Store, int, api.Errno) { return base.Step(s, 9) },
	} {
		first, n, e := do()
		second, _, _ := do()
		want := copied(second)
		spoil(first)
		if third, m, f := do(); e != api.OK || f != api.OK || n != m || !same(second, want) || !same(third, want) || !slices.Equal(whole, was) {
			t.Error(name, e, second, third, whole)
		}
	}
	full := api.Store{Nodes: whole[:10], Room: 10}
	for name, do := range map[string]func(){
		"no place":      func() { base.Centre(s, 10) },
		"no middle":     func() { base.Nine(s, 2) },
		"no step":       func() { base.Step(s, 7) },
		"no room":       func() { base.Centre(full, 7) },
		"no room, nine": func() { base.Nine(full, 7) },
		"no room, step": func() { base.Step(full, 6) },
	} {
		if do(); !slices.Equal(whole, was) {
			t.Error(name, whole)
		}
	}
}
