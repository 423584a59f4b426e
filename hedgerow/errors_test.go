package hedgerow_test

import (
	"testing"

	"hedgerow/api"
	"hedgerow/hedgerow"
)

// P1

var (
	edgeIDs    = []int{smallest, -1 << 32, -1, 0, 1, maxID, maxID + 1, 1 << 16, 1 << 32, greatest}
	edgeCoords = []int{smallest, smallest + 1, -1 << 32, -maxCoord - 1, -maxCoord, -1, 0, 1, maxCoord, maxCoord + 1, 1 << 32, greatest - 1, greatest}
)

// put does to the model what the document says, and tells the error.
func (m model) put(id int, r api.Rect) api.Errno {
	if id < 0 || id > maxID {
		return api.ErrArg
	}
	for _, n := range []int{r.X0, r.Y0, r.X1, r.Y1} {
		if n < -maxCoord || n > maxCoord {
			return api.ErrRect
		}
	}
	if r.X0 > r.X1 || r.Y0 > r.Y1 {
		return api.ErrRect
	}
	if _, ok := m[id]; !ok && len(m) == maxThings {
		return api.ErrFull
	}
	m[id] = r
	return api.OK
}

func (m model) drop(id int) api.Errno {
	if _, ok := m[id]; !ok {
		return api.ErrNone
	}
	delete(m, id)
	return api.OK
}

func edgeRects(yield func(api.Rect) bool) {
	for _, x0 := range edgeCoords {
		for _, y0 := range edgeCoords {
			for _, x1 := range edgeCoords {
				for _, y1 := range edgeCoords {
					if !yield(rect(x0, y0, x1, y1)) {
						return
					}
				}
			}
		}
	}
}

func putAllEdges(t *testing.T, tree *hedgerow.Tree, held model) {
	t.Helper()
	for _, id := range edgeIDs {
		for r := range edgeRects {
			wantPut(t, tree, id, r, held.put(id, r))
			wantOne(t, tree, id, held)
			wantLen(t, tree, len(held))
		}
		wantAll(t, tree, held)
	}
}

func dropAllEdges(t *testing.T, tree *hedgerow.Tree, held model) {
	t.Helper()
	for _, id := range edgeIDs {
		wantDrop(t, tree, id, held.drop(id))
		wantDrop(t, tree, id, api.ErrNone)
		wantAll(t, tree, held)
	}
}

func windowsAtAllEdges(t *testing.T, tree *hedgerow.Tree, held model) {
	t.Helper()
	for w := range edgeRects {
		if (model{}).put(0, w) != api.OK {
			wantNoWindow(t, tree, w)
			continue
		}
		wantMeets(t, tree, w, held.meets(w)...)
		wantWithin(t, tree, w, held.within(w)...)
	}
}

func nearestAtAllEdges(t *testing.T, tree *hedgerow.Tree, held model) {
	t.Helper()
	for _, x := range edgeCoords {
		for _, y := range edgeCoords {
			for _, most := range []int{smallest, -1 << 32, -1, 0, 1, maxThings, maxThings + 1, 1 << 32, greatest} {
				if most < 0 || max(x, y) > maxCoord || min(x, y) < -maxCoord {
					wantNoNearest(t, tree, x, y, most)
				} else {
					wantNearest(t, tree, x, y, most, held.nearest(x, y, most)...)
				}
			}
		}
	}
}

func TestFindingAtEveryEdgeInTreesOfManySizes(t *testing.T) {
	for _, fan := range []int{4, 16} {
		for _, count := range []int{0, 1, maxThings} {
			tree := newTree(t, fan)
			held := fill(t, tree, count)
			if count > 0 {
				held[0] = rect(-maxCoord, -1, maxCoord, 1)
				wantPut(t, tree, 0, held[0], api.OK)
			}
			height := tree.Height()
			windowsAtAllEdges(t, tree, held)
			nearestAtAllEdges(t, tree, held)
			wantAll(t, tree, held)
			wantPairs(t, tree, held.pairs())
			if h := tree.Height(); h != height {
				t.Fatalf("finding made the height %d of %d", h, height)
			}
		}
	}
}

func TestErrorsChangeNothingThatIsFound(t *testing.T) {
	tree := newTree(t, 4)
	held := fill(t, tree, maxThings)
	height, pairs := tree.Height(), held.pairs()
	wantPut(t, tree, -1, rect(0, 0, 1, 1), api.ErrArg)
	wantPut(t, tree, 0, rect(1, 0, 0, 0), api.ErrRect)
	wantPut(t, tree, 1, rect(0, 0, 1, 1), api.ErrFull)
	wantDrop(t, tree, 1, api.ErrNone)
	wantNoWindow(t, tree, rect(1, 0, 0, 0))
	wantNoNearest(t, tree, 0, 0, -1)
	wantAll(t, tree, held)
	wantFound(t, tree, held, rect(0, 0, 1, 1))
	wantFound(t, tree, held, everywhere)
	wantPairs(t, tree, pairs)
	if h := tree.Height(); h != height {
		t.Fatalf("errors made the height %d of %d", h, height)
	}
}

func TestEveryEdgeInTreesOfManySizes(t *testing.T) {
	for _, count := range []int{0, 1, maxThings - 1, maxThings} {
		tree := newTree(t, 4)
		held := fill(t, tree, count)
		putAllEdges(t, tree, held)
		dropAllEdges(t, tree, held)
	}
}

func TestTheErrorNamedFirstIsTold(t *testing.T) {
	tree := newTree(t, 4)
	held := fill(t, tree, maxThings)
	good, bad := rect(0, 0, 1, 1), rect(1, 0, 0, 0)
	for _, id := range []int{-1, maxID + 1, smallest, greatest} {
		wantPut(t, tree, id, bad, api.ErrArg)
		wantPut(t, tree, id, good, api.ErrArg)
	}
	wantPut(t, tree, 1, bad, api.ErrRect)
	wantPut(t, tree, 0, bad, api.ErrRect)
	wantPut(t, tree, 1, good, api.ErrFull)
	wantAll(t, tree, held)
}
