package hedgerow_test

import (
	"testing"

	"hedgerow/api"
	"hedgerow/hedgerow"
)

// P2

// dice gives the same numbers in each run.
type dice uint64

func (d *dice) below(n int) int {
	*d = *d*6364136223846793005 + 1442695040888963407
	return int(uint64(*d)>>33) % n
}

func (d *dice) rect() api.Rect {
	x, y := d.below(2000)-1000, d.below(2000)-1000
	// Some come out as no rectangle.
	return rect(x, y, x+d.below(100)-5, y+d.below(100)-5)
}

func oneCall(t *testing.T, tree *hedgerow.Tree, held model, d *dice) {
	t.Helper()
	id := d.below(maxID+3) - 1
	if d.below(2) == 0 {
		id %= 500
	}
	if d.below(4) == 0 {
		wantDrop(t, tree, id, held.drop(id))
	} else {
		r := d.rect()
		wantPut(t, tree, id, r, held.put(id, r))
	}
	wantOne(t, tree, id, held)
	wantLen(t, tree, len(held))
	if d.below(20) == 0 {
		x, y := d.below(2000)-1000, d.below(2000)-1000
		wantFound(t, tree, held, rect(x, y, x+d.below(500), y+d.below(500)))
	}
}

func TestTreesUsedInTurns(t *testing.T) {
	var d dice = 1
	var trees []*hedgerow.Tree
	var models []model
	for fan := 4; fan <= 16; fan++ {
		trees = append(trees, newTree(t, fan))
		models = append(models, model{})
	}
	for range 20000 {
		i := d.below(len(trees))
		oneCall(t, trees[i], models[i], &d)
	}
	for i := range trees {
		wantAll(t, trees[i], models[i])
		wantPairs(t, trees[i], models[i].pairs())
		wantHeight(t, trees[i], 4+i, len(models[i]))
	}
}

func TestTwoTreesOfOneFanShareNothing(t *testing.T) {
	a, b := newTree(t, 4), newTree(t, 4)
	wantPut(t, a, 1, rect(0, 0, 1, 1), api.OK)
	wantAll(t, b, model{})
	wantPut(t, b, 1, rect(2, 2, 3, 3), api.OK)
	wantDrop(t, a, 1, api.OK)
	wantAll(t, a, model{})
	wantMeets(t, a, everywhere)
	wantNearest(t, a, 0, 0, 5)
	wantAll(t, b, model{1: rect(2, 2, 3, 3)})
	wantMeets(t, b, everywhere, 1)
	wantNearest(t, b, 0, 0, 5, hit(1, 8))
}

func TestTheSameCallsGiveTheSameTree(t *testing.T) {
	for fan := 4; fan <= 16; fan++ {
		a, b := newTree(t, fan), newTree(t, fan)
		heldA, heldB := model{}, model{}
		var forA, forB dice = 7, 7
		for range 1500 {
			oneCall(t, a, heldA, &forA)
			oneCall(t, b, heldB, &forB)
			if h, k := a.Height(), b.Height(); h != k {
				t.Fatalf("the same calls make heights %d and %d, by fan %d", h, k, fan)
			}
		}
	}
}

func TestAFullTreeLeavesRoomInAnother(t *testing.T) {
	full, other := newTree(t, 4), newTree(t, 4)
	held := fill(t, full, maxThings)
	wantPut(t, full, 1, rect(0, 0, 1, 1), api.ErrFull)
	wantPut(t, other, 1, rect(0, 0, 1, 1), api.OK)
	wantAll(t, other, model{1: rect(0, 0, 1, 1)})
	wantAll(t, full, held)
	wantAll(t, newTree(t, 4), model{})
}

func TestRectanglesAreCopied(t *testing.T) {
	tree := newTree(t, 4)
	r := rect(0, 0, 1, 1)
	wantPut(t, tree, 1, r, api.OK)
	r.X0 = 99
	got, _ := tree.Get(1)
	got.Y0 = 99
	wantAll(t, tree, model{1: rect(0, 0, 1, 1)})
}
