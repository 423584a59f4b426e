package hedgerow_test

import (
	"testing"

	"hedgerow/api"
	"hedgerow/hedgerow"
)

// P5

var everywhere = rect(-maxCoord, -maxCoord, maxCoord, maxCoord)

func putAll(t *testing.T, tree *hedgerow.Tree, held model) {
	t.Helper()
	for _, id := range held.ids() {
		wantPut(t, tree, id, held[id], api.OK)
	}
}

func exampleTree(t *testing.T) *hedgerow.Tree {
	t.Helper()
	tree := newTree(t, 4)
	putAll(t, tree, model{1: rect(0, 0, 10, 10), 2: rect(10, 10, 20, 20), 3: rect(11, 0, 11, 9)})
	return tree
}

func TestWindowsOfTheExamples(t *testing.T) {
	tree := exampleTree(t)
	wantMeets(t, tree, rect(10, 10, 10, 10), 1, 2)
	wantMeets(t, tree, rect(11, 5, 30, 6), 3)
	wantWithin(t, tree, rect(0, 0, 11, 10), 1, 3)
	wantPairs(t, tree, 1)
}

func TestWindowsThatTouch(t *testing.T) {
	tree := newTree(t, 4)
	wantPut(t, tree, 5, rect(0, 0, 10, 20), api.OK)
	for _, w := range []api.Rect{
		rect(10, 5, 15, 6), rect(-5, 5, 0, 6), rect(5, 20, 6, 25), rect(5, -5, 6, 0),
		rect(10, 20, 15, 25), rect(-5, -5, 0, 0), rect(10, -5, 15, 0), rect(-5, 20, 0, 25),
		rect(0, 0, 0, 0), rect(10, 20, 10, 20), rect(3, 3, 4, 4),
		rect(-5, 5, 15, 6), rect(5, -5, 6, 25), rect(0, 0, 9, 20), rect(1, 0, 10, 20), rect(0, 1, 10, 20), rect(0, 0, 10, 19),
	} {
		wantMeets(t, tree, w, 5)
		wantWithin(t, tree, w)
	}
	for _, w := range []api.Rect{
		rect(11, 5, 15, 6), rect(-5, 5, -1, 6), rect(5, 21, 6, 25), rect(5, -5, 6, -1),
		rect(11, 20, 15, 25), rect(10, 21, 15, 25), rect(-5, -5, -1, 0), rect(-5, -5, 0, -1),
	} {
		wantMeets(t, tree, w)
		wantWithin(t, tree, w)
	}
	for _, w := range []api.Rect{rect(0, 0, 10, 20), rect(-1, -1, 11, 21), rect(0, -9, 10, 20), everywhere} {
		wantMeets(t, tree, w, 5)
		wantWithin(t, tree, w, 5)
	}
}

func TestPlacesThatAFloat32DoesNotTellApart(t *testing.T) {
	for _, low := range []int{999999999, -1000000000, 16777216, -16777217, 33554433} {
		tree := newTree(t, 4)
		a, b := rect(low, low, low, low), rect(low+1, low+1, low+1, low+1)
		putAll(t, tree, model{1: a, 2: b, 3: rect(low, low, low+1, low+1)})
		wantMeets(t, tree, a, 1, 3)
		wantMeets(t, tree, b, 2, 3)
		wantWithin(t, tree, a, 1)
		wantWithin(t, tree, b, 2)
		wantMeets(t, tree, rect(low, low+1, low, low+1), 3)
		wantPairs(t, tree, 2)
		wantNearest(t, tree, low, low, 3, hit(1, 0), hit(3, 0), hit(2, 2))
		wantNearest(t, tree, low+1, low+1, 3, hit(2, 0), hit(3, 0), hit(1, 2))
	}
}

// fineThings lie close together where a float32 is coarse, enough of them for several levels.
func fineThings(low int) model {
	held := model{}
	for i := range 200 {
		x, y := low+i%20, -low-i/20
		held[i*20] = rect(x, y, x+i%2, y)
	}
	return held
}

func TestManyThingsThatAFloat32DoesNotTellApart(t *testing.T) {
	for _, fan := range []int{4, 16} {
		for _, low := range []int{maxCoord - 20, -maxCoord + 20, 1<<24 - 10, 1<<29 - 10} {
			tree, held := newTree(t, fan), fineThings(low)
			putAll(t, tree, held)
			wantPairs(t, tree, held.pairs())
			for i := -1; i <= 20; i++ {
				x, y := low+min(i, 19), -low-max(i, 0)
				wantFound(t, tree, held, rect(x, y, x, y))
				wantFound(t, tree, held, rect(x, y, min(x+3, maxCoord), min(y+1, maxCoord)))
			}
		}
	}
}

func TestWindowsThatAreNoRectangles(t *testing.T) {
	tree := exampleTree(t)
	for _, w := range []api.Rect{
		rect(1, 0, 0, 0), rect(0, 1, 0, 0), rect(10, 10, 0, 0),
		rect(-maxCoord-1, 0, 0, 0), rect(0, -maxCoord-1, 0, 0), rect(0, 0, maxCoord+1, 0), rect(0, 0, 0, maxCoord+1),
		rect(smallest, smallest, greatest, greatest), rect(greatest, greatest, smallest, smallest),
	} {
		wantNoWindow(t, tree, w)
		wantNoWindow(t, newTree(t, 4), w)
	}
	wantMeets(t, tree, everywhere, 1, 2, 3)
}

func TestNumbersComeInOrder(t *testing.T) {
	for _, fan := range []int{4, 7, 16} {
		tree, held := newTree(t, fan), model{}
		for i := range maxThings {
			// 2003 has no factor in common with 4096: no number comes twice, and they come in no order.
			id := i * 2003 % (maxID + 1)
			held[id] = rect(i%17, i%19, i%17+3, i%19+3)
			wantPut(t, tree, id, held[id], api.OK)
		}
		wantMeets(t, tree, everywhere, held.ids()...)
		wantWithin(t, tree, everywhere, held.ids()...)
	}
}

func TestWindowsWithoutThings(t *testing.T) {
	tree := newTree(t, 4)
	wantMeets(t, tree, everywhere)
	wantWithin(t, tree, everywhere)
	wantPairs(t, tree, 0)
}

func TestPairs(t *testing.T) {
	for fan := 4; fan <= 16; fan++ {
		apart, common := newTree(t, fan), newTree(t, fan)
		for i := range maxThings {
			wantPut(t, apart, i, rect(2*i, -2*i, 2*i+1, -2*i+1), api.OK)
			wantPut(t, common, i, rect(-i, -i, 0, i), api.OK)
		}
		wantPairs(t, apart, 0)
		wantPairs(t, common, maxThings*(maxThings-1)/2)
	}
}

func TestPairsThatTouch(t *testing.T) {
	tree := newTree(t, 4)
	putAll(t, tree, model{0: rect(0, 0, 1, 1), 1: rect(1, 1, 2, 2), 2: rect(2, 0, 3, 1), 3: rect(0, 2, 1, 3), 4: rect(3, 0, 3, 0), 5: rect(4, 0, 9, 9)})
	wantPairs(t, tree, 4)
}

func TestPairsBehindPutAndDrop(t *testing.T) {
	tree := newTree(t, 4)
	for id := range 4 {
		wantPut(t, tree, id, rect(0, 0, 5, 5), api.OK)
	}
	wantPairs(t, tree, 6)
	wantPut(t, tree, 2, rect(5, 5, 6, 6), api.OK)
	wantPairs(t, tree, 6)
	wantPut(t, tree, 2, rect(6, 6, 7, 7), api.OK)
	wantPairs(t, tree, 3)
	wantPut(t, tree, 2, rect(1, 1, 1, 1), api.OK)
	wantPairs(t, tree, 6)
	wantDrop(t, tree, 0, api.OK)
	wantPairs(t, tree, 3)
	wantDrop(t, tree, 3, api.OK)
	wantPairs(t, tree, 1)
	wantDrop(t, tree, 1, api.OK)
	wantPairs(t, tree, 0)
	wantDrop(t, tree, 2, api.OK)
	wantPairs(t, tree, 0)
}

// P3 and P4 over the tree of boxes

func TestThingsThatAreMovedFarAway(t *testing.T) {
	for fan := 4; fan <= 16; fan++ {
		tree := newTree(t, fan)
		held := fill(t, tree, maxThings)
		for i, id := range held.ids() {
			if i%3 > 0 {
				continue
			}
			home := held[id]
			held[id] = rect(-maxCoord+id, maxCoord-id, -maxCoord+id, maxCoord)
			wantPut(t, tree, id, held[id], api.OK)
			wantMeets(t, tree, home, held.meets(home)...)
			wantFound(t, tree, held, held[id])
			wantHeight(t, tree, fan, maxThings)
		}
		wantAll(t, tree, held)
		wantPairs(t, tree, held.pairs())
	}
}

func TestDownToNothingAndUpAgain(t *testing.T) {
	for fan := 4; fan <= 16; fan++ {
		tree := newTree(t, fan)
		for range 2 {
			held := fill(t, tree, maxThings)
			ids := held.ids()
			for i := range ids {
				id := ids[i*7%len(ids)]
				gone := held[id]
				wantDrop(t, tree, id, held.drop(id))
				wantMeets(t, tree, gone, held.meets(gone)...)
				wantHeight(t, tree, fan, len(held))
			}
			wantAll(t, tree, model{})
			wantFound(t, tree, model{}, everywhere)
			wantPairs(t, tree, 0)
		}
	}
}
