package hedgerow_test

import (
	"testing"

	"hedgerow/api"
)

// P4

func TestPutsOfTheExamples(t *testing.T) {
	tree := newTree(t, 4)
	held := model{1: rect(0, 0, 10, 10), 2: rect(10, 10, 20, 20), 3: rect(11, 0, 11, 9)}
	for id := 1; id <= 3; id++ {
		wantPut(t, tree, id, held[id], api.OK)
		wantLen(t, tree, id)
	}
	wantPut(t, tree, 4, rect(5, 4, 4, 5), api.ErrRect)
	wantPut(t, tree, 4096, rect(0, 0, 1, 1), api.ErrArg)
	wantDrop(t, tree, 9, api.ErrNone)
	wantAll(t, tree, held)
}

func TestPutAtTheEdgesOfNumbers(t *testing.T) {
	tree := newTree(t, 4)
	held := model{0: rect(1, 2, 3, 4), maxID: rect(5, 6, 7, 8)}
	wantPut(t, tree, 0, held[0], api.OK)
	wantPut(t, tree, maxID, held[maxID], api.OK)
	for _, id := range []int{-1, maxID + 1, 1 << 16, 1 << 32, -1 << 32, greatest, smallest} {
		wantPut(t, tree, id, rect(0, 0, 1, 1), api.ErrArg)
		wantNothing(t, tree, id)
	}
	wantAll(t, tree, held)
}

func TestPutAtTheEdgesOfCoordinates(t *testing.T) {
	tree := newTree(t, 4)
	held := model{}
	for id, r := range []api.Rect{
		rect(-maxCoord, -maxCoord, maxCoord, maxCoord),
		rect(-maxCoord, -maxCoord, -maxCoord, -maxCoord),
		rect(maxCoord, maxCoord, maxCoord, maxCoord),
		rect(-maxCoord, maxCoord, -maxCoord, maxCoord),
		rect(maxCoord, -maxCoord, maxCoord, -maxCoord),
		rect(maxCoord-1, maxCoord-1, maxCoord-1, maxCoord-1),
		rect(0, 0, 0, 0),
		rect(-1, 0, -1, 9),
		rect(0, -1, 9, -1),
	} {
		held[id] = r
		wantPut(t, tree, id, r, api.OK)
	}
	wantAll(t, tree, held)
}

func TestPutOfNoRectangle(t *testing.T) {
	tree := newTree(t, 4)
	held := model{1: rect(2, 3, 4, 5)}
	wantPut(t, tree, 1, held[1], api.OK)
	for _, r := range []api.Rect{
		rect(1, 0, 0, 0), rect(0, 1, 0, 0), rect(1, 1, 0, 0), rect(5, 4, 4, 5),
		rect(-maxCoord-1, 0, 0, 0), rect(0, -maxCoord-1, 0, 0),
		rect(0, 0, maxCoord+1, 0), rect(0, 0, 0, maxCoord+1),
		rect(maxCoord+1, 0, maxCoord+1, 0), rect(0, maxCoord+1, 0, maxCoord+1),
		rect(-maxCoord-1, 0, -maxCoord-1, 0), rect(0, -maxCoord-1, 0, -maxCoord-1),
		rect(maxCoord, 0, -maxCoord, 0), rect(0, maxCoord, 0, -maxCoord),
		rect(smallest, 0, 0, 0), rect(0, smallest, 0, 0), rect(0, 0, greatest, 0), rect(0, 0, 0, greatest),
		rect(smallest, smallest, smallest, smallest), rect(greatest, greatest, greatest, greatest),
		rect(smallest, smallest, greatest, greatest), rect(greatest, greatest, smallest, smallest),
		rect(0, 0, 1<<32, 0), rect(0, 0, 0, 1<<32), rect(-1<<32, 0, 0, 0), rect(0, -1<<32, 0, 0),
	} {
		wantPut(t, tree, 1, r, api.ErrRect)
		wantPut(t, tree, 2, r, api.ErrRect)
	}
	wantAll(t, tree, held)
}

func TestPutOfWhatIsThere(t *testing.T) {
	tree := newTree(t, 4)
	wantPut(t, tree, 7, rect(0, 0, 9, 9), api.OK)
	wantPut(t, tree, 7, rect(-5, -5, -4, -4), api.OK)
	wantAll(t, tree, model{7: rect(-5, -5, -4, -4)})
	wantPut(t, tree, 7, rect(-5, -5, -4, -4), api.OK)
	wantAll(t, tree, model{7: rect(-5, -5, -4, -4)})
}

func TestTwoThingsMayHaveOneRectangle(t *testing.T) {
	tree := newTree(t, 4)
	wantPut(t, tree, 7, rect(0, 0, 9, 9), api.OK)
	wantPut(t, tree, 8, rect(0, 0, 9, 9), api.OK)
	wantLen(t, tree, 2)
	wantDrop(t, tree, 7, api.OK)
	wantAll(t, tree, model{8: rect(0, 0, 9, 9)})
}

func TestPutInAFullTree(t *testing.T) {
	tree := newTree(t, 16)
	held := fill(t, tree, maxThings)
	wantPut(t, tree, 1, rect(0, 0, 1, 1), api.ErrFull)
	wantAll(t, tree, held)

	held[0] = rect(-8, -8, -8, -8)
	held[maxID] = rect(8, 8, 8, 8)
	wantPut(t, tree, 0, held[0], api.OK)
	wantPut(t, tree, maxID, held[maxID], api.OK)
	wantAll(t, tree, held)
}

func TestFullTreeHasRoomBehindADrop(t *testing.T) {
	tree := newTree(t, 5)
	held := fill(t, tree, maxThings)
	wantDrop(t, tree, 0, api.OK)
	delete(held, 0)
	held[1] = rect(0, 0, 1, 1)
	wantPut(t, tree, 1, held[1], api.OK)
	wantPut(t, tree, 0, rect(0, 0, 1, 1), api.ErrFull)
	wantAll(t, tree, held)
}

func TestDrop(t *testing.T) {
	tree := newTree(t, 4)
	wantDrop(t, tree, 3, api.ErrNone)
	wantPut(t, tree, 3, rect(1, 1, 2, 2), api.OK)
	wantPut(t, tree, 4, rect(3, 3, 4, 4), api.OK)
	wantDrop(t, tree, 5, api.ErrNone)
	wantLen(t, tree, 2)
	wantDrop(t, tree, 3, api.OK)
	wantAll(t, tree, model{4: rect(3, 3, 4, 4)})
	wantDrop(t, tree, 3, api.ErrNone)
	wantAll(t, tree, model{4: rect(3, 3, 4, 4)})
	wantPut(t, tree, 3, rect(5, 5, 6, 6), api.OK)
	wantAll(t, tree, model{3: rect(5, 5, 6, 6), 4: rect(3, 3, 4, 4)})
}

func TestDropAndGetOutsideTheNumbers(t *testing.T) {
	tree := newTree(t, 4)
	held := model{0: rect(1, 1, 2, 2), maxID: rect(3, 3, 4, 4)}
	wantPut(t, tree, 0, held[0], api.OK)
	wantPut(t, tree, maxID, held[maxID], api.OK)
	for _, id := range []int{-1, maxID + 1, 1 << 16, 1 << 32, -1 << 32, greatest, smallest} {
		wantDrop(t, tree, id, api.ErrNone)
		wantNothing(t, tree, id)
	}
	wantAll(t, tree, held)
}

func TestDropOfAllThings(t *testing.T) {
	tree := newTree(t, 4)
	held := fill(t, tree, maxThings)
	for id := range maxID + 1 {
		if _, ok := held[id]; !ok {
			wantDrop(t, tree, id, api.ErrNone)
			continue
		}
		wantDrop(t, tree, id, api.OK)
		delete(held, id)
		wantLen(t, tree, len(held))
		wantNothing(t, tree, id)
	}
	wantAll(t, tree, fill(t, tree, maxThings))
}
