package hedgerow_test

import (
	"cmp"
	"maps"
	"slices"
	"testing"

	"hedgerow/api"
	"hedgerow/hedgerow"
)

func (m model) ids() []int { return slices.Sorted(maps.Keys(m)) }

// What the document says of finding, by going through all things.

func (m model) find(fits func(api.Rect) bool) []int {
	var ids []int
	for id, r := range m {
		if fits(r) {
			ids = append(ids, id)
		}
	}
	slices.Sort(ids)
	return ids
}

func share(a, b api.Rect) bool {
	return max(a.X0, b.X0) <= min(a.X1, b.X1) && max(a.Y0, b.Y0) <= min(a.Y1, b.Y1)
}

func (m model) meets(w api.Rect) []int {
	return m.find(func(r api.Rect) bool { return share(r, w) })
}

func (m model) within(w api.Rect) []int {
	return m.find(func(r api.Rect) bool {
		return r.X0 >= w.X0 && r.Y0 >= w.Y0 && r.X1 <= w.X1 && r.Y1 <= w.Y1
	})
}

func (m model) pairs() int {
	count := 0
	for i, a := range m {
		for j, b := range m {
			if i < j && share(a, b) {
				count++
			}
		}
	}
	return count
}

func (m model) nearest(x, y, most int) []api.Hit {
	var hits []api.Hit
	for id, r := range m {
		dx, dy := x-min(max(x, r.X0), r.X1), y-min(max(y, r.Y0), r.Y1)
		hits = append(hits, api.Hit{ID: id, Far: dx*dx + dy*dy})
	}
	slices.SortFunc(hits, func(a, b api.Hit) int {
		return cmp.Or(cmp.Compare(a.Far, b.Far), cmp.Compare(a.ID, b.ID))
	})
	return hits[:min(most, len(hits))]
}

func hit(id, far int) api.Hit { return api.Hit{ID: id, Far: far} }

func wantMeets(t *testing.T, tree *hedgerow.Tree, w api.Rect, want ...int) {
	t.Helper()
	if got, e := tree.Meets(w); !slices.Equal(got, want) || e != api.OK {
		t.Fatalf("Meets(%v) = %v, %d, want %v, 0", w, got, e, want)
	}
}

func wantWithin(t *testing.T, tree *hedgerow.Tree, w api.Rect, want ...int) {
	t.Helper()
	if got, e := tree.Within(w); !slices.Equal(got, want) || e != api.OK {
		t.Fatalf("Within(%v) = %v, %d, want %v, 0", w, got, e, want)
	}
}

func wantNoWindow(t *testing.T, tree *hedgerow.Tree, w api.Rect) {
	t.Helper()
	if got, e := tree.Meets(w); got != nil || e != api.ErrRect {
		t.Fatalf("Meets(%v) = %v, %d, want nil and ErrRect", w, got, e)
	}
	if got, e := tree.Within(w); got != nil || e != api.ErrRect {
		t.Fatalf("Within(%v) = %v, %d, want nil and ErrRect", w, got, e)
	}
}

func wantPairs(t *testing.T, tree *hedgerow.Tree, want int) {
	t.Helper()
	if got := tree.Pairs(); got != want {
		t.Fatalf("Pairs() = %d, want %d", got, want)
	}
}

func wantNearest(t *testing.T, tree *hedgerow.Tree, x, y, most int, want ...api.Hit) {
	t.Helper()
	if got, e := tree.Nearest(x, y, most); !slices.Equal(got, want) || e != api.OK {
		t.Fatalf("Nearest(%d, %d, %d) = %v, %d, want %v, 0", x, y, most, got, e, want)
	}
}

func wantNoNearest(t *testing.T, tree *hedgerow.Tree, x, y, most int) {
	t.Helper()
	if got, e := tree.Nearest(x, y, most); got != nil || e != api.ErrArg {
		t.Fatalf("Nearest(%d, %d, %d) = %v, %d, want nil and ErrArg", x, y, most, got, e)
	}
}

// wantHeight asks for a height that the document allows for so many things.
func wantHeight(t *testing.T, tree *hedgerow.Tree, fan, things int) {
	t.Helper()
	height := tree.Height()
	if height < 1 || height > 8 {
		t.Fatalf("Height() = %d, of %d things, by fan %d", height, things, fan)
	}
	fewest, greatest := 2, fan
	for range height - 1 {
		fewest *= max(2, 2*fan/5)
		greatest *= fan
	}
	if height > 1 && things < fewest || things > greatest {
		t.Fatalf("Height() = %d, of %d things, by fan %d", height, things, fan)
	}
}

// wantFound holds all calls that find against the model, at one window and its lower corner.
func wantFound(t *testing.T, tree *hedgerow.Tree, held model, w api.Rect) {
	t.Helper()
	wantMeets(t, tree, w, held.meets(w)...)
	wantWithin(t, tree, w, held.within(w)...)
	for _, most := range []int{0, 1, 7, len(held), len(held) + 1, greatest} {
		wantNearest(t, tree, w.X0, w.Y0, most, held.nearest(w.X0, w.Y0, most)...)
	}
}
