package boxes

import "slices"

// halve cuts a list in two parts with at least so many each, across or along, where the two boxes are smallest together.
func halve[T held](list []T, least int) ([]T, []T) {
	// A stable sort: how the tree comes out must hang on the calls alone.
	byX, byY := slices.Clone(list), slices.Clone(list)
	slices.SortStableFunc(byX, func(p, q T) int { return p.edges().compareX(q.edges()) })
	slices.SortStableFunc(byY, func(p, q T) int { return p.edges().compareY(q.edges()) })
	atX, spanX := bestCut(byX, least)
	atY, spanY := bestCut(byY, least)
	if spanX <= spanY {
		return parts(byX, atX)
	}
	return parts(byY, atY)
}

// bestCut tells where to cut a sorted list, and the spans of the two boxes together.
func bestCut[T held](list []T, least int) (int, int) {
	best, span := least, twoSpans(list, least)
	for at := least + 1; at <= len(list)-least; at++ {
		if s := twoSpans(list, at); s < span {
			best, span = at, s
		}
	}
	return best, span
}

func twoSpans[T held](list []T, at int) int {
	return boxAround(list[:at]).span() + boxAround(list[at:]).span()
}

// parts copies the second part, so that the first one can grow without writing into it.
func parts[T held](list []T, at int) ([]T, []T) {
	second := slices.Clone(list[at:])
	return slices.Delete(list, at, len(list)), second
}
