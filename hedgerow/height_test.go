package hedgerow_test

import (
	"testing"

	"hedgerow/api"
)

// P7

func TestHeightOfALeafAlone(t *testing.T) {
	for fan := 4; fan <= 16; fan++ {
		tree := newTree(t, fan)
		for count := range fan + 1 {
			if h := tree.Height(); h != 1 {
				t.Fatalf("Height() = %d, of %d things, by fan %d", h, count, fan)
			}
			wantPut(t, tree, count, rect(count, 0, count, 0), api.OK)
		}
		if h := tree.Height(); h != 2 {
			t.Fatalf("Height() = %d, of one thing more than the fan %d", h, fan)
		}
	}
}

func TestHeightBehindPuttingAndDropping(t *testing.T) {
	var d dice = 3
	for fan := 4; fan <= 16; fan++ {
		for _, spread := range []int{1, 30, 100000} {
			tree, held := newTree(t, fan), model{}
			for step := range 4000 {
				id := d.below(500)
				// There is a time to put, and a time to drop.
				if (step%1600 < 800) == (d.below(5) > 0) {
					r := rect(d.below(spread), d.below(spread), spread, spread)
					wantPut(t, tree, id, r, held.put(id, r))
				} else {
					wantDrop(t, tree, id, held.drop(id))
				}
				wantHeight(t, tree, fan, len(held))
			}
			wantFound(t, tree, held, rect(0, 0, spread, spread/2))
		}
	}
}

func TestHeightInOrder(t *testing.T) {
	for fan := 4; fan <= 16; fan++ {
		tree := newTree(t, fan)
		for i := range maxThings {
			wantPut(t, tree, i, rect(i, i, i, i), api.OK)
			wantHeight(t, tree, fan, i+1)
		}
		for i := range maxThings {
			wantPut(t, tree, i, rect(-i, i, -i, i), api.OK)
			wantHeight(t, tree, fan, maxThings)
		}
		for i := range maxThings {
			wantDrop(t, tree, i, api.OK)
			wantHeight(t, tree, fan, maxThings-i-1)
		}
		if h := tree.Height(); h != 1 {
			t.Fatalf("Height() = %d, without things", h)
		}
	}
}
