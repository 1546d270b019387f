// Package cells is layer 1, sets of cells: see shared/doc/01-cells.md.
package cells

import (
	"cmp"
	"slices"

	"gosper/api"
)

// place is a cell that tells how it stands to others, in the order of a set.
type place api.Cell

func (p place) compare(q place) int {
	return cmp.Or(cmp.Compare(p.Y, q.Y), cmp.Compare(p.X, q.X))
}

// Right tells whether a list is a set: not too many cells, within bounds, which rise.
func Right(l []api.Cell) bool {
	if len(l) > api.MaxCells {
		return false
	}
	for i, c := range l {
		if beyond(c) || i > 0 && place(l[i-1]).compare(place(c)) >= 0 {
			return false
		}
	}
	return true
}

// Of is the set of some cells, in whatever order, and however often these stand there.
func Of(l []api.Cell) ([]api.Cell, api.Errno) {
	if slices.ContainsFunc(l, beyond) {
		return nil, api.ErrBounds
	}
	set := places(l)
	slices.SortFunc(set, place.compare)
	return told(slices.Compact(set))
}

// Has tells whether a cell is in a list, which need not be a set.
func Has(l []api.Cell, c api.Cell) bool {
	return slices.Contains(l, c)
}

// With is a set with a cell, or without it.
func With(l []api.Cell, c api.Cell, alive bool) ([]api.Cell, api.Errno) {
	if !Right(l) {
		return nil, api.ErrArg
	}
	if beyond(c) {
		return nil, api.ErrBounds
	}
	set := places(l)
	i, is := slices.BinarySearchFunc(set, place(c), place.compare)
	switch {
	case alive && !is:
		set = slices.Insert(set, i, place(c))
	case !alive && is:
		set = slices.Delete(set, i, i+1)
	}
	return told(set)
}

// Shift is a set elsewhere: its cells stand to each other as they did, so that they still rise.
func Shift(l []api.Cell, dx, dy int) ([]api.Cell, api.Errno) {
	if !Right(l) {
		return nil, api.ErrArg
	}
	out := make([]api.Cell, len(l))
	for i, c := range l {
		// A sum that goes round is told by the bounds too: what is added to is so small that it comes out next to the least, or the greatest, of all numbers.
		out[i] = api.Cell{X: c.X + dx, Y: c.Y + dy}
		if beyond(out[i]) {
			return nil, api.ErrBounds
		}
	}
	return out, api.OK
}

// Box is the least one about a set; false: there is none, since it is empty, or no set.
func Box(l []api.Cell) (api.Box, bool) {
	if len(l) == 0 || !Right(l) {
		return api.Box{}, false
	}
	// A set rises by Y first, so that only X has to be looked for.
	first, last := l[0], l[len(l)-1]
	left, right := first.X, first.X
	for _, c := range l {
		left, right = min(left, c.X), max(right, c.X)
	}
	return api.Box{X: left, Y: first.Y, W: right - left + 1, H: last.Y - first.Y + 1}, true
}

// beyond tells whether a cell is not within bounds.
func beyond(c api.Cell) bool {
	return max(c.X, c.Y) > api.MaxCoord || min(c.X, c.Y) < -api.MaxCoord
}

// places are cells in new memory, so that what was handed in stays as it was.
func places(l []api.Cell) []place {
	out := make([]place, len(l))
	for i, c := range l {
		out[i] = place(c)
	}
	return out
}

// told is what comes out of a set, unless it has too many cells.
func told(set []place) ([]api.Cell, api.Errno) {
	if len(set) > api.MaxCells {
		return nil, api.ErrLong
	}
	out := make([]api.Cell, len(set))
	for i, p := range set {
		out[i] = api.Cell(p)
	}
	return out, api.OK
}
