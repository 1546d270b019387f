package hash_test

import (
	"math"
	"math/big"
	"slices"
	"testing"

	"gosper/api"
	"gosper/hash"
)

const (
	mod  = 1 << 31
	mul  = 16777619
	most = 4000
)

// modulo is what is left of a number of any size, which may be below 0, by one above 0.
func modulo(x *big.Int, n int) *big.Int {
	return new(big.Int).Mod(x, big.NewInt(int64(n)))
}

// ofModel is what Of should answer: the chapter's words one by one, with numbers of any size.
func ofModel(kids [4]int) int {
	h := big.NewInt(17)
	for i := range 4 {
		h.Xor(h, modulo(big.NewInt(int64(kids[i])), mod))
		h = modulo(h.Mul(h, big.NewInt(mul)), mod)
	}
	return int(h.Xor(h, new(big.Int).Div(h, big.NewInt(1<<15))).Int64())
}

// slotModel is what Slot should answer.
func slotModel(h, i, slots int) int {
	if slots < 1 || h < 0 || i < 0 || h > 2147483647 || i > 2147483647 {
		return 0
	}
	return int(modulo(new(big.Int).Add(big.NewInt(int64(h)), big.NewInt(int64(i))), slots).Int64())
}

// pathModel is what Path should answer.
func pathModel(kids [4]int, slots int) []int {
	var out []int
	for i, h := 0, ofModel(kids); slots <= most && i < slots; i++ {
		out = append(out, slotModel(h, i, slots))
	}
	return out
}

// ofAsked holds Of against the model.
func ofAsked(t *testing.T, kids [4]int) {
	t.Helper()
	if got, want := hash.Of(kids), ofModel(kids); got != want {
		t.Fatalf("Of %v: %d, not %d", kids, got, want)
	}
}

// slotHeld holds what Slot answers against what it should be.
func slotHeld(t *testing.T, h, i, slots, want int) {
	t.Helper()
	if got := hash.Slot(h, i, slots); got != want {
		t.Fatalf("Slot of %d, %d and %d: %d, not %d", h, i, slots, got, want)
	}
}

// pathHeld holds what Path answers against what it should be.
func pathHeld(t *testing.T, kids [4]int, slots int, want []int) {
	t.Helper()
	if got := hash.Path(kids, slots); !slices.Equal(got, want) {
		t.Fatalf("Path of %v and %d: %d slots, %v, not %d, %v", kids, slots, len(got), got[:min(9, len(got))], len(want), want[:min(9, len(want))])
	}
}

// edges are numbers about those at which something might change.
func edges(upto int) []int {
	var out []int
	for _, n := range []int{0, 17, 1 << 15, 1 << 16, 1 << 30, 1 << 31, 1 << 32, 1 << 33, 1 << 62, math.MinInt} {
		for d := -upto; d <= upto; d++ {
			out = append(out, n+d, -n+d)
		}
	}
	slices.Sort(out)
	return slices.Compact(out)
}

// chance gives numbers of all bits, always the same ones.
func chance() func() int {
	x := 1
	return func() int {
		x = x*6364136223846793005 + 1442695040888963407
		high := x >> 32
		x = x*6364136223846793005 + 1442695040888963407
		return high<<32 ^ int(uint(x)>>32)
	}
}

// some are four numbers that chance takes, some of which are small, or have no more than 31 bits.
func some(next func() int) [4]int {
	var kids [4]int
	for i := range kids {
		switch kids[i] = next(); next() & 3 {
		case 0:
			kids[i] &= mod - 1
		case 1:
			kids[i] &= 15
		}
	}
	return kids
}

func TestExample(t *testing.T) {
	next := chance()
	for range 1000 {
		path := hash.Path(some(next), 3)
		switch {
		case slices.Equal(path, []int{0, 1, 2}), slices.Equal(path, []int{1, 2, 0}), slices.Equal(path, []int{2, 0, 1}):
		default:
			t.Fatal(path)
		}
	}
}

func TestNumbers(t *testing.T) {
	if api.HashMod != mod || api.HashMul != mul || api.MaxSlots != most {
		t.Error("these tests go by other numbers")
	}
}

// TestM1Known goes by numbers that were reckoned elsewhere.
func TestM1Known(t *testing.T) {
	for _, x := range []struct {
		kids [4]int
		want int
	}{
		{[4]int{}, 1391498689},
		{[4]int{1, 0, 0, 0}, 46396567},
		{[4]int{0, 1, 0, 0}, 336155844},
		{[4]int{0, 0, 1, 0}, 753790051},
		{[4]int{0, 0, 0, 1}, 1374719342},
		{[4]int{1, 2, 3, 4}, 1452178412},
		{[4]int{4, 3, 2, 1}, 603082509},
		{[4]int{17, 0, 0, 0}, 0},
		{[4]int{100, 200, 300, 400}, 1061674606},
		{[4]int{2147483647, 2147483647, 2147483647, 2147483647}, 154674893},
		// Of a kid the last 31 bits alone go in.
		{[4]int{2147483648, 0, 0, 0}, 1391498689},
		{[4]int{0, -2147483648, 0, 0}, 1391498689},
		{[4]int{0, 0, math.MinInt, 1 << 62}, 1391498689},
		{[4]int{-1, -2, math.MinInt, math.MaxInt}, 1504724656},
	} {
		if got := hash.Of(x.kids); got != x.want {
			t.Errorf("Of %v: %d, not %d", x.kids, got, x.want)
		}
	}
}

// TestM1Model goes by all fours of some numbers, and by each edge at each place.
func TestM1Model(t *testing.T) {
	few := []int{0, 1, 2, 17, 1<<31 - 1, 1 << 31, -1, math.MinInt, math.MaxInt}
	for _, a := range few {
		for _, b := range few {
			for _, c := range few {
				for _, d := range few {
					ofAsked(t, [4]int{a, b, c, d})
				}
			}
		}
	}
	for _, n := range edges(40) {
		for place := range 4 {
			kids := [4]int{5, 6, 7, 8}
			kids[place] = n
			ofAsked(t, kids)
		}
	}
}

// TestM1Chance goes by fours that chance takes.
func TestM1Chance(t *testing.T) {
	next := chance()
	for range 100000 {
		ofAsked(t, some(next))
	}
}

// TestM1Bits holds that each of the last 31 bits of a kid goes in, and none ahead of these does.
func TestM1Bits(t *testing.T) {
	next := chance()
	for range 300 {
		kids := some(next)
		for place := range 4 {
			for bit := range 64 {
				other := kids
				other[place] ^= 1 << bit
				if same := hash.Of(other) == hash.Of(kids); same != (bit >= 31) {
					t.Fatal(kids, place, bit, same)
				}
			}
		}
	}
}

// TestM2Slot goes by numbers that may be asked for.
func TestM2Slot(t *testing.T) {
	for _, x := range []struct{ h, i, slots, want int }{
		{0, 0, 1, 0}, {5, 9, 1, 0}, {0, 0, 4, 0}, {7, 0, 4, 3}, {7, 1, 4, 0}, {7, 2, 4, 1}, {3, 4, 8, 7}, {4, 4, 8, 0},
		{2147483647, 0, 4000, 3647}, {2147483647, 1, 4000, 3648}, {0, 2147483647, 4000, 3647},
		// The sum is told whole, whatever goes round in 31 bits or in 32.
		{2147483647, 1, 1 << 40, 1 << 31}, {2147483647, 2147483647, 1 << 40, 1<<32 - 2}, {2147483647, 2147483647, math.MaxInt, 1<<32 - 2},
		{2147483647, 2147483647, 1<<32 - 2, 0}, {2147483647, 2147483647, 1<<32 - 1, 1<<32 - 2}, {2147483647, 2147483647, 1<<32 - 3, 1},
		{2147483647, 2147483647, 7, 2}, {2147483646, 1, 1 << 31, 2147483647}, {2147483647, 1, 1 << 31, 0},
	} {
		slotHeld(t, x.h, x.i, x.slots, x.want)
	}
}

// TestM2Refused goes by numbers of which one may not be.
func TestM2Refused(t *testing.T) {
	wrong := []int{math.MinInt, math.MinInt + 1, -1 << 32, -1<<31 - 1, -1 << 31, -2, -1, 1 << 31, 1<<31 + 1, 1<<32 - 1, 1 << 32, 1<<32 + 1, 1 << 62, math.MaxInt}
	for _, n := range wrong {
		for _, slots := range []int{1, 2, 3, 4, 1000, 4000, 1<<31 + 3, math.MaxInt} {
			for _, other := range []int{0, 1, 6, 1<<31 - 1} {
				slotHeld(t, n, other, slots, 0)
				slotHeld(t, other, n, slots, 0)
			}
			slotHeld(t, n, n, slots, 0)
			slotHeld(t, n, -n, slots, 0)
		}
	}
	for _, slots := range []int{math.MinInt, -1 << 32, -4000, -3, -1, 0} {
		for _, n := range []int{0, 1, 5, 1<<31 - 1, 1 << 31, -1} {
			slotHeld(t, n, 2, slots, 0)
			slotHeld(t, 2, n, slots, 0)
		}
	}
}

// TestM2SlotModel goes by all threes of edges, and by threes that chance takes.
func TestM2SlotModel(t *testing.T) {
	few := edges(2)
	for _, h := range few {
		for _, i := range few {
			for _, slots := range few {
				slotHeld(t, h, i, slots, slotModel(h, i, slots))
			}
		}
	}
	next := chance()
	for range 100000 {
		x := some(next)
		slotHeld(t, x[0], x[1], x[2], slotModel(x[0], x[1], x[2]))
	}
}

// TestM2Path goes by paths of all numbers of slots that there may be.
func TestM2Path(t *testing.T) {
	next := chance()
	for slots := range most + 1 {
		kids := some(next)
		pathHeld(t, kids, slots, pathModel(kids, slots))
	}
	for range 200 {
		kids, slots := some(next), next()&15
		pathHeld(t, kids, slots, pathModel(kids, slots))
	}
	// Of is 0 there, and 1391498689 of four noughts.
	pathHeld(t, [4]int{17}, 4, []int{0, 1, 2, 3})
	pathHeld(t, [4]int{17}, 1, []int{0})
	pathHeld(t, [4]int{}, 10, []int{9, 0, 1, 2, 3, 4, 5, 6, 7, 8})
	pathHeld(t, [4]int{}, 6, []int{1, 2, 3, 4, 5, 0})
}

// TestM2None holds that no path is told of so many slots as there may not be.
func TestM2None(t *testing.T) {
	for _, kids := range [][4]int{{}, {17}, {1, 2, 3, 4}, {-1, -1, -1, -1}} {
		for _, slots := range append(edges(3), -4000, 4001, 4002, 8000, 1<<32+4) {
			if slots < 1 || slots > most {
				pathHeld(t, kids, slots, nil)
			}
		}
	}
}

// TestM3Range holds that Of has at most 31 bits, and is not below 0.
func TestM3Range(t *testing.T) {
	next := chance()
	for range 200000 {
		kids := some(next)
		if got := hash.Of(kids); got < 0 || got > 2147483647 {
			t.Fatal(kids, got)
		}
	}
}

// TestM3Once holds that a path comes to each slot once.
func TestM3Once(t *testing.T) {
	next := chance()
	for slots := 1; slots <= most; slots++ {
		kids := some(next)
		path, had := hash.Path(kids, slots), make([]bool, slots)
		if len(path) != slots {
			t.Fatal(kids, slots, len(path))
		}
		for i, slot := range path {
			if slot < 0 || slot >= slots || had[slot] {
				t.Fatal(kids, slots, i, slot)
			}
			had[slot] = true
		}
	}
}

// TestM3Other holds that of kids of which only one is another one Of is another number.
func TestM3Other(t *testing.T) {
	next := chance()
	for place := range 4 {
		kids := some(next)
		had := map[int]int{}
		for n := range 1 << 18 {
			// The first ones one by one, and then some of all that there are.
			if kids[place] = n; n >= 1<<16 {
				kids[place] = next() & (mod - 1)
			}
			h := hash.Of(kids)
			if first, is := had[h]; is && first != kids[place] {
				t.Fatal(kids, place, first)
			}
			had[h] = kids[place]
		}
	}
}

// TestM3Back finds each kid again by what Of is, and by the other three: so no two kids can stand there.
func TestM3Back(t *testing.T) {
	back := int(new(big.Int).ModInverse(big.NewInt(mul), big.NewInt(mod)).Int64())
	next := chance()
	for range 20000 {
		var kids [4]int
		for i := range kids {
			kids[i] = next() & (mod - 1)
		}
		for place := range 4 {
			ahead := 17
			for _, kid := range kids[:place] {
				ahead = (ahead ^ kid) * mul % mod
			}
			h := hash.Of(kids)
			h ^= h>>15 ^ h>>30
			for i := 3; i > place; i-- {
				h = h*back%mod ^ kids[i]
			}
			if found := h*back%mod ^ ahead; found != kids[place] {
				t.Fatal(kids, place, found)
			}
		}
	}
}

// TestR3 writes into a path, and into its spare room, and looks whether what else came out stays as it was.
func TestR3(t *testing.T) {
	for slots := range 100 {
		kids := [4]int{slots, 2, 3, 4}
		first, second := hash.Path(kids, slots), hash.Path(kids, slots)
		keep := slices.Clone(second)
		first = first[:cap(first)]
		for i := range first {
			first[i] = -99
		}
		if !slices.Equal(second, keep) {
			t.Error("shared", slots, second)
		}
		pathHeld(t, kids, slots, keep)
	}
}

// TestR4 holds that what is answered hangs on what is asked alone, not on what was asked ahead of it.
func TestR4(t *testing.T) {
	next := chance()
	for range 1000 {
		kids, slots := some(next), 1+next()&63
		of, path := hash.Of(kids), hash.Path(kids, slots)
		hash.Path(some(next), 1+next()&63)
		slot := hash.Slot(of, 0, slots)
		if hash.Of(some(next)); hash.Of(kids) != of || slot != path[0] {
			t.Fatal(kids, slots)
		}
		pathHeld(t, kids, slots, path)
	}
}
