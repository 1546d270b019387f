package mem_test

import (
	"math"
	"math/big"
	"slices"
	"testing"

	"gosper/api"
	"gosper/mem"
)

const (
	most  = 1<<60 - 1
	words = 100000
)

func load(at int) api.Access         { return api.Access{Kind: 1, At: at} }
func write(at, n int) api.Access     { return api.Access{Kind: 2, At: at, New: n} }
func swap(at, old, n int) api.Access { return api.Access{Kind: 3, At: at, Old: old, New: n} }
func add(at, n int) api.Access       { return api.Access{Kind: 4, At: at, New: n} }

// of is an access of any kind, known or not.
func of(kind, at, n int) api.Access { return api.Access{Kind: kind, At: at, New: n} }

// found is what Do answers.
type found struct {
	m    []int
	x    int
	done bool
	e    api.Errno
}

// none is what Do answers with an error.
func none(m []int, e api.Errno) found { return found{m, 0, false, e} }

// with are words one of which is another one.
func with(m []int, at, n int) []int { return slices.Concat(m[:at], []int{n}, m[at+1:]) }

// low tells whether a number may be written.
func low(n *big.Int) bool { return n.CmpAbs(big.NewInt(most)) <= 0 }

func sum(a, b int) *big.Int { return new(big.Int).Add(big.NewInt(int64(a)), big.NewInt(int64(b))) }

// doModel is what Do should answer: the chapter's words one by one, with numbers of any size.
func doModel(m []int, a api.Access) found {
	kinds := []string{"", "load", "write", "swap", "add"}
	if a.Kind < 1 || a.Kind > 4 || len(m) > words {
		return none(m, api.ErrArg)
	}
	if a.At < 0 || a.At >= len(m) {
		return none(m, api.ErrBounds)
	}
	x := m[a.At]
	switch kinds[a.Kind] {
	case "load":
		return found{m, x, true, api.OK}
	case "write":
		if !low(big.NewInt(int64(a.New))) {
			return none(m, api.ErrBounds)
		}
		return found{with(m, a.At, a.New), x, true, api.OK}
	case "swap":
		if !low(big.NewInt(int64(a.New))) {
			return none(m, api.ErrBounds)
		}
		if x != a.Old {
			return found{m, x, false, api.OK}
		}
		return found{with(m, a.At, a.New), x, true, api.OK}
	}
	n := sum(x, a.New)
	if !low(n) {
		return none(m, api.ErrBounds)
	}
	return found{with(m, a.At, int(n.Int64())), x, true, api.OK}
}

// playModel is what Play should answer: Do of each, one behind the other.
func playModel(m []int, l []api.Access) ([]int, []int, api.Errno) {
	out, all := m, []int{}
	for _, a := range l {
		f := doModel(out, a)
		if f.e != api.OK {
			return m, nil, f.e
		}
		out, all = f.m, append(all, f.x)
	}
	return out, all, api.OK
}

// short is the beginning of words, for a test's remark.
func short(m []int) []int { return m[:min(len(m), 9)] }

// held holds what Do answers against what it should be, and that the words that were handed in are as they were.
func held(t *testing.T, m []int, a api.Access, want found) {
	t.Helper()
	was := slices.Clone(m)
	got, x, is, e := mem.Do(m, a)
	if !slices.Equal(got, want.m) || x != want.x || is != want.done || e != want.e {
		t.Errorf("%v of %d %v: %d %v %d %v %d, not %d %v %d %v %d", a, len(was), short(was), len(got), short(got), x, is, e, len(want.m), short(want.m), want.x, want.done, want.e)
	}
	if !slices.Equal(m, was) {
		t.Errorf("%v of %v: written into: %v", a, short(was), short(m))
	}
}

// asked holds Do against the model.
func asked(t *testing.T, m []int, a api.Access) {
	t.Helper()
	held(t, m, a, doModel(slices.Clone(m), a))
}

// playHeld holds what Play answers against what it should be, and that what was handed in is as it was.
func playHeld(t *testing.T, m []int, l []api.Access, want, all []int, f api.Errno) {
	t.Helper()
	was, list := slices.Clone(m), slices.Clone(l)
	got, xs, e := mem.Play(m, l...)
	if !slices.Equal(got, want) || !slices.Equal(xs, all) || e != f {
		t.Errorf("%v of %v: %v %v %d, not %v %v %d", l, short(was), short(got), xs, e, short(want), all, f)
	}
	if !slices.Equal(m, was) || !slices.Equal(l, list) {
		t.Errorf("%v of %v: written into: %v %v", list, short(was), l, short(m))
	}
}

// playAsked holds Play against the model.
func playAsked(t *testing.T, m []int, l ...api.Access) {
	t.Helper()
	want, all, f := playModel(slices.Clone(m), l)
	playHeld(t, m, l, want, all, f)
}

// edges are numbers about those at which something changes, and some others.
func edges() []int {
	out := []int{math.MinInt, math.MinInt + 1, math.MaxInt - 1, math.MaxInt, 7, -7, 1 << 32, -1 << 32}
	for _, n := range []int{0, most, 2 * most, 1 << 61, 1 << 62, 3 << 61} {
		for d := -2; d <= 2; d++ {
			out = append(out, n+d, -n+d)
		}
	}
	slices.Sort(out)
	return slices.Compact(out)
}

// counting are so many words, each of which is unlike the others.
func counting(n int) []int {
	out := make([]int, n)
	for i := range out {
		out[i] = 3*i + 1
	}
	return out
}

// chance gives numbers below others, always the same ones.
func chance() func(int) int {
	x := 1
	return func(below int) int {
		x = x*6364136223846793005 + 1442695040888963407
		return int(uint(x) >> 33 % uint(below))
	}
}

func TestExample(t *testing.T) {
	playHeld(t, []int{0}, []api.Access{swap(0, 0, 5), swap(0, 0, 7), load(0)}, []int{5}, []int{0, 5, 5}, api.OK)
}

func TestKinds(t *testing.T) {
	if api.Load != 1 || api.Write != 2 || api.Swap != 3 || api.Add != 4 || api.MaxWord != most || api.MaxWords != words {
		t.Error("these tests go by other numbers")
	}
}

// TestJ1Kind goes by kinds that are none: that is told ahead of all else.
func TestJ1Kind(t *testing.T) {
	for _, kind := range []int{math.MinInt, -1 << 32, -4, -3, -2, -1, 0, 5, 6, 7, 8, 255, 257, 1<<32 + 1, 1<<32 + 2, 1<<32 + 3, 1<<32 + 4, math.MaxInt} {
		for _, m := range [][]int{nil, {}, {0}, {4, 5, 6}, {most, -most}, {math.MaxInt, math.MinInt}} {
			for _, at := range []int{math.MinInt, -1, 0, 1, 2, 3, words, math.MaxInt} {
				for _, n := range []int{0, 3, most, most + 1, math.MinInt} {
					held(t, m, of(kind, at, n), none(m, api.ErrArg))
				}
			}
		}
	}
}

// TestJ1Words goes by how many words there may be: more are told ahead of what else is wrong.
func TestJ1Words(t *testing.T) {
	for _, n := range []int{words + 1, words + 2, 1 << 20} {
		m := counting(n)
		for kind := 0; kind <= 5; kind++ {
			for _, at := range []int{-1, 0, words - 1, words, n - 1, n} {
				held(t, m, of(kind, at, 3), none(m, api.ErrArg))
			}
			held(t, m, of(kind, 0, most+1), none(m, api.ErrArg))
		}
	}
	m := counting(words)
	for _, at := range []int{0, 1, words / 2, words - 2, words - 1} {
		held(t, m, load(at), found{m, 3*at + 1, true, api.OK})
		held(t, m, write(at, -8), found{with(m, at, -8), 3*at + 1, true, api.OK})
		held(t, m, swap(at, 3*at+1, -8), found{with(m, at, -8), 3*at + 1, true, api.OK})
		held(t, m, add(at, -8), found{with(m, at, 3*at-7), 3*at + 1, true, api.OK})
	}
	for kind := 1; kind <= 4; kind++ {
		for _, at := range []int{-1, words, words + 1} {
			held(t, m, of(kind, at, 3), none(m, api.ErrBounds))
		}
	}
}

// TestJ1At goes by places at which no word is.
func TestJ1At(t *testing.T) {
	for _, m := range [][]int{nil, {}, {0}, {1}, {4, 5}, {4, 5, 6}, counting(100)} {
		for _, at := range []int{math.MinInt, -1 << 32, -words, -2, -1, len(m), len(m) + 1, words - 1, words, 1 << 32, math.MaxInt} {
			if at >= 0 && at < len(m) {
				continue
			}
			for kind := 1; kind <= 4; kind++ {
				for _, n := range []int{0, 1, most, most + 1, math.MinInt} {
					held(t, m, of(kind, at, n), none(m, api.ErrBounds))
				}
			}
		}
		// What stands behind the words' length is no word.
		wide := append(slices.Clone(m), 8, 9)
		for kind := 1; kind <= 4; kind++ {
			held(t, wide[:len(m)], of(kind, len(m), 3), none(m, api.ErrBounds))
		}
		if !slices.Equal(wide[len(m):], []int{8, 9}) {
			t.Error("written into behind its length", wide)
		}
		// Each place that is one has its own word.
		for at := range m {
			for _, a := range []api.Access{load(at), write(at, 77), swap(at, m[at], 77), swap(at, m[at]+1, 77), add(at, 77)} {
				asked(t, m, a)
			}
		}
	}
}

// TestJ1Load holds that of a Load nothing is to be written, whatever the word, Old and New.
func TestJ1Load(t *testing.T) {
	for _, x := range edges() {
		m := []int{2, x, 3}
		for _, n := range edges() {
			held(t, m, api.Access{Kind: 1, At: 1, Old: n, New: n}, found{m, x, true, api.OK})
			held(t, m, api.Access{Kind: 1, At: 1, Old: x, New: n}, found{m, x, true, api.OK})
		}
	}
}

// TestJ1Write holds that a word of any size may be written over, whatever Old, by one that may be.
func TestJ1Write(t *testing.T) {
	for _, x := range edges() {
		m := []int{2, x, 3}
		for _, n := range edges() {
			want := found{[]int{2, n, 3}, x, true, api.OK}
			if n < -1152921504606846975 || n > 1152921504606846975 {
				want = none(m, api.ErrBounds)
			}
			for _, old := range []int{0, x, n, x + 1, math.MinInt} {
				held(t, m, api.Access{Kind: 2, At: 1, Old: old, New: n}, want)
			}
		}
	}
}

// TestJ1Swap holds that New is looked at, whether the word is Old or not, and Old by the word alone.
func TestJ1Swap(t *testing.T) {
	for _, x := range edges() {
		m := []int{2, x, 3}
		for _, n := range edges() {
			for _, old := range edges() {
				want := found{m, x, false, api.OK}
				if old == x {
					want = found{[]int{2, n, 3}, x, true, api.OK}
				}
				if n < -1152921504606846975 || n > 1152921504606846975 {
					want = none(m, api.ErrBounds)
				}
				held(t, m, swap(1, old, n), want)
			}
		}
	}
	// The word as it was is a swap that was done, too.
	held(t, []int{5}, swap(0, 5, 5), found{[]int{5}, 5, true, api.OK})
	held(t, []int{5}, swap(0, 4, 5), found{[]int{5}, 5, false, api.OK})
	held(t, []int{5, 4}, swap(0, 4, 6), found{[]int{5, 4}, 5, false, api.OK})
}

// TestJ1Add goes by sums at the edges, of words that may be beyond them, too.
func TestJ1Add(t *testing.T) {
	for i, x := range []struct{ x, n, want int }{
		{0, 0, 0}, {3, 4, 7}, {3, -4, -1}, {-3, 4, 1}, {-3, -4, -7}, {0, most, most}, {0, -most, -most},
		{most, 0, most}, {-most, 0, -most}, {most - 1, 1, most}, {1 - most, -1, -most}, {most, -2 * most, -most}, {-most, 2 * most, most}, {most, -1, most - 1}, {-most, 1, 1 - most},
		{most + 1, -1, most}, {-most - 1, 1, -most}, {math.MaxInt, most - math.MaxInt, most}, {math.MinInt, math.MaxInt, -1}, {math.MaxInt, math.MinInt, -1}, {math.MinInt, math.MaxInt - most + 1, -most},
		{math.MaxInt, -math.MaxInt, 0}, {1 << 62, -1 << 62, 0},
	} {
		held(t, []int{9, 8, x.x}, add(2, x.n), found{[]int{9, 8, x.want}, x.x, true, api.OK})
		// Whatever Old is.
		held(t, []int{9, 8, x.x}, api.Access{Kind: 4, At: 2, Old: i, New: x.n}, found{[]int{9, 8, x.want}, x.x, true, api.OK})
	}
	for _, x := range []struct{ x, n int }{
		{most, 1}, {-most, -1}, {0, most + 1}, {0, -most - 1}, {1, most}, {-1, -most}, {most, most}, {-most, -most}, {most + 1, 0}, {-most - 1, 0}, {most, -2*most - 1}, {-most, 2*most + 1},
		{math.MaxInt, 0}, {math.MinInt, 0}, {0, math.MaxInt}, {0, math.MinInt}, {math.MaxInt, -1}, {math.MinInt, 1},
		// Sums that go round, to 0 or next to it, or to other numbers that may be.
		{math.MinInt, math.MinInt}, {math.MaxInt, math.MaxInt}, {math.MaxInt, math.MaxInt - 5}, {math.MinInt, math.MinInt + 5}, {most, math.MaxInt}, {-most, math.MinInt},
		{math.MinInt, -1 << 62}, {math.MinInt, -most}, {math.MaxInt, 1}, {math.MinInt, -1}, {math.MinInt + most, math.MinInt}, {math.MaxInt - most, math.MaxInt}, {math.MinInt, math.MinInt + most}, {math.MaxInt, math.MaxInt - most},
	} {
		m := []int{9, 8, x.x}
		held(t, m, add(2, x.n), none(m, api.ErrBounds))
	}
}

// TestJ1Model goes by all words, kinds, Olds and News of the edges, at one place, and beside it.
func TestJ1Model(t *testing.T) {
	for _, x := range edges() {
		for _, n := range edges() {
			for kind := 0; kind <= 5; kind++ {
				for _, old := range []int{0, x, n, x + 1, x - 1, -x} {
					a := api.Access{Kind: kind, At: 1, Old: old, New: n}
					asked(t, []int{n, x, old}, a)
					asked(t, []int{n, x}, a)
					asked(t, []int{x}, a)
				}
			}
		}
	}
}

// TestJ2 goes by accesses one behind the other, each of which finds what those ahead of it left.
func TestJ2(t *testing.T) {
	m := []int{1, 2, 3}
	for _, x := range []struct {
		l    []api.Access
		want []int
		all  []int
	}{
		{nil, m, nil},
		{[]api.Access{load(1)}, m, []int{2}},
		{[]api.Access{write(1, 7)}, []int{1, 7, 3}, []int{2}},
		{[]api.Access{write(1, 7), load(1), write(1, 8), load(1)}, []int{1, 8, 3}, []int{2, 7, 7, 8}},
		{[]api.Access{add(2, 5), add(2, 5), add(2, -20)}, []int{1, 2, -7}, []int{3, 8, 13}},
		{[]api.Access{swap(0, 1, 2), swap(0, 1, 3), swap(0, 2, 4), swap(0, 2, 5)}, []int{4, 2, 3}, []int{1, 2, 2, 4}},
		// A swap that was not done is no error: all goes on.
		{[]api.Access{swap(0, 9, 2), write(1, 6), swap(2, 9, 2), load(0)}, []int{1, 6, 3}, []int{1, 2, 3, 1}},
		{[]api.Access{write(0, 5), write(1, 6), write(2, 7), load(2), load(1), load(0)}, []int{5, 6, 7}, []int{1, 2, 3, 7, 6, 5}},
		{[]api.Access{add(0, most-1), add(0, -2*most), add(0, most)}, []int{0, 2, 3}, []int{1, most, -most}},
	} {
		playHeld(t, m, x.l, x.want, x.all, api.OK)
	}
}

// TestJ2Errors goes by errors at all places: the first one is told, and nothing else.
func TestJ2Errors(t *testing.T) {
	m := []int{1, 2, 3}
	good := []api.Access{write(0, 5), add(1, 3), swap(2, 3, 4), swap(2, 3, 4), load(1)}
	bad := []struct {
		a api.Access
		e api.Errno
	}{
		{of(0, 0, 0), api.ErrArg}, {of(5, 0, 0), api.ErrArg}, {of(-1, 3, most+1), api.ErrArg}, {load(3), api.ErrBounds}, {load(-1), api.ErrBounds}, {write(3, 0), api.ErrBounds},
		{write(0, most+1), api.ErrBounds}, {swap(1, 77, -most-1), api.ErrBounds}, {add(2, most), api.ErrBounds}, {add(2, math.MaxInt), api.ErrBounds},
	}
	for at := range len(good) + 1 {
		for _, x := range bad {
			playHeld(t, m, slices.Insert(slices.Clone(good), at, x.a), m, nil, x.e)
			for _, y := range bad {
				playHeld(t, m, slices.Concat(good[:at], []api.Access{x.a}, good[at:], []api.Access{y.a}), m, nil, x.e)
			}
		}
	}
	// What is an error hangs on what those ahead left.
	playHeld(t, m, []api.Access{write(0, most), add(0, 1)}, m, nil, api.ErrBounds)
	playHeld(t, m, []api.Access{write(0, most), write(0, -1), add(0, 1)}, []int{0, 2, 3}, []int{1, most, -1}, api.OK)
	playHeld(t, []int{most + 1}, []api.Access{add(0, 0), load(0)}, []int{most + 1}, nil, api.ErrBounds)
	playHeld(t, []int{most + 1}, []api.Access{load(0), add(0, -1), add(0, 0)}, []int{most}, []int{most + 1, most + 1, most}, api.OK)
}

// TestJ2None holds that there is no error where there is no access, of whatever words.
func TestJ2None(t *testing.T) {
	for _, m := range [][]int{nil, {}, {0}, {math.MinInt, math.MaxInt}, counting(words), counting(words + 1)} {
		playHeld(t, m, nil, m, nil, api.OK)
		playHeld(t, m, []api.Access{}, m, nil, api.OK)
	}
}

// TestJ2Words goes by how many words there may be, and by many accesses to them.
func TestJ2Words(t *testing.T) {
	m := counting(words + 1)
	for kind := 0; kind <= 5; kind++ {
		for _, at := range []int{-1, 0, words, words + 1} {
			playHeld(t, m, []api.Access{of(kind, at, 3)}, m, nil, api.ErrArg)
		}
	}
	m = m[:words]
	var l []api.Access
	want := make([]int, words)
	for at, x := range m {
		l = append(l, add(at, at))
		want[at] = x + at
	}
	playHeld(t, m, l, want, m, api.OK)
	playHeld(t, m, append(l, load(words)), m, nil, api.ErrBounds)
}

// TestJ2Model goes by accesses that chance takes, few of which are errors.
func TestJ2Model(t *testing.T) {
	next, seen, undone := chance(), map[api.Errno]int{}, 0
	values := []int{0, 1, 2, most, -most, 1 << 59, -1 << 59}
	for range 20000 {
		m := make([]int, 1+next(5))
		for i := range m {
			m[i] = values[next(len(values))]
		}
		var l []api.Access
		for range next(12) {
			l = append(l, api.Access{Kind: 1 + next(4), At: next(len(m)), Old: values[next(3)], New: values[next(3)]})
		}
		if len(l) > 0 && next(3) == 0 {
			a := &l[next(len(l))]
			a.Kind, a.At, a.New = next(6), next(len(m)+2)-1, values[next(len(values))]
		}
		_, _, f := playModel(m, l)
		seen[f]++
		playAsked(t, m, l...)
		// And Do of each, one behind the other, has them find the same.
		out, all, e := mem.Play(m, l...)
		if e != api.OK {
			continue
		}
		then := m
		for i, a := range l {
			var x int
			var done bool
			if then, x, done, e = mem.Do(then, a); e != api.OK || x != all[i] {
				t.Fatal(m, l, i, x, e)
			}
			if !done {
				undone++
			}
		}
		if !slices.Equal(then, out) {
			t.Error(m, l, then, out)
		}
	}
	for _, e := range []api.Errno{api.OK, api.ErrArg, api.ErrBounds} {
		if seen[e] < 300 {
			t.Error("seldom met", e, seen[e])
		}
	}
	if undone < 300 {
		t.Error("seldom met: a swap that is not done", undone)
	}
}

// TestJ3Place holds that at most the word at an access's place is changed.
func TestJ3Place(t *testing.T) {
	next, changed := chance(), 0
	for range 20000 {
		m := make([]int, next(8))
		for i := range m {
			m[i] = next(4)
		}
		a := api.Access{Kind: next(6), At: next(10) - 1, Old: next(4), New: next(4)}
		got, _, _, _ := mem.Do(m, a)
		if len(got) != len(m) {
			t.Fatal(m, a, got)
		}
		for i := range m {
			if got[i] != m[i] && i != a.At {
				t.Error(m, a, got)
			}
			if got[i] != m[i] {
				changed++
			}
		}
	}
	if changed < 1000 {
		t.Error("seldom met: a change", changed)
	}
}

// TestJ3Swaps goes by two that swap the same word from the same Old: both do so only where the first one left it as it was.
func TestJ3Swaps(t *testing.T) {
	values := []int{0, 1, 2, most, -most, math.MaxInt}
	for _, x := range values {
		for _, old := range values {
			for _, first := range values[:5] {
				for _, second := range values[:5] {
					m, _, a, e := mem.Do([]int{3, x}, swap(1, old, first))
					m, _, b, f := mem.Do(m, swap(1, old, second))
					if a != (x == old) || b != (x == old && first == old) || e != api.OK || f != api.OK {
						t.Error(x, old, first, second, a, b, e, f)
					}
					want := x
					if a {
						want = first
					}
					if b {
						want = second
					}
					if m[0] != 3 || m[1] != want {
						t.Error(x, old, first, second, m)
					}
				}
			}
		}
	}
}

// TestWords goes by words that are changed where they stand: what they answer is what Do answers.
func TestWords(t *testing.T) {
	next, values := chance(), []int{0, 1, 2, most, -most, most + 1, math.MinInt}
	m := []int{4, most, -most, 0, 1}
	w := mem.Words(slices.Clone(m))
	for range 20000 {
		a := api.Access{Kind: next(6), At: next(len(m)+2) - 1, Old: values[next(4)], New: values[next(len(values))]}
		want, n, is, f := mem.Do(m, a)
		x, done, e := w.Do(a)
		if x != n || done != is || e != f || !slices.Equal(w, want) {
			t.Fatal(m, a, w, x, done, e)
		}
		m = want
	}
	if x, done, e := mem.Words(nil).Do(load(0)); x != 0 || done || e != api.ErrBounds {
		t.Error(x, done, e)
	}
	w = counting(words + 1)
	if x, done, e := w.Do(write(0, 5)); x != 0 || done || e != api.ErrArg || w[0] != 1 {
		t.Error(x, done, e, w[0])
	}
}

// spoil writes into a list, and into its spare room.
func spoil(l []int) {
	l = l[:cap(l)]
	for i := range l {
		l[i] = -99
	}
}

// TestR3 writes into all that comes out, and looks whether what is handed in, and what else came out, stays as it was.
func TestR3(t *testing.T) {
	for size := 1; size < 40; size++ {
		whole := counting(size + 3)
		m := whole[:size]
		was := slices.Clone(whole)
		for _, a := range []api.Access{load(0), write(0, 5), swap(0, 1, 5), swap(0, 2, 5), add(0, 5)} {
			first, _, _, _ := mem.Do(m, a)
			second, _, _, _ := mem.Do(m, a)
			keep := slices.Clone(second)
			spoil(first)
			if !slices.Equal(whole, was) || !slices.Equal(second, keep) {
				t.Error("shared", a, whole, second)
			}
			list := []api.Access{a, load(0), write(0, 8)}
			given := slices.Clone(list)
			first, all, _ := mem.Play(m, list[:2]...)
			second, others, _ := mem.Play(m, list[:2]...)
			keep, finds := slices.Clone(second), slices.Clone(others)
			spoil(first)
			if !slices.Equal(all, finds) {
				t.Error("shared with what was found", a, all, finds)
			}
			spoil(all)
			if !slices.Equal(whole, was) || !slices.Equal(second, keep) || !slices.Equal(others, finds) || !slices.Equal(list, given) {
				t.Error("shared", a, whole, second, others)
			}
		}
		first, _, _ := mem.Play(m)
		spoil(first)
		if !slices.Equal(whole, was) {
			t.Error("shared", whole)
		}
	}
}
