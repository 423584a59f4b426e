package hedgerow_test

import (
	"testing"

	"hedgerow/api"
)

// P6

func TestNearestOfTheExamples(t *testing.T) {
	wantNearest(t, exampleTree(t), 13, 8, 2, hit(2, 4), hit(3, 4))
}

func TestNearestAtAPlaceOfSeveralThings(t *testing.T) {
	tree := newTree(t, 4)
	putAll(t, tree, model{9: rect(0, 0, 10, 10), 4: rect(5, 5, 5, 5), 7: rect(-3, -3, 5, 5), 2: rect(6, 5, 8, 8), 3: rect(5, 7, 5, 9), 1: rect(8, 9, 9, 9)})
	wantNearest(t, tree, 5, 5, 9, hit(4, 0), hit(7, 0), hit(9, 0), hit(2, 1), hit(3, 4), hit(1, 25))
	wantNearest(t, tree, 5, 5, 2, hit(4, 0), hit(7, 0))
}

func TestHowFarIsReckonedFromTheNearestPlace(t *testing.T) {
	tree := newTree(t, 4)
	wantPut(t, tree, 1, rect(10, 20, 30, 40), api.OK)
	for _, c := range [][3]int{
		{10, 20, 0}, {30, 40, 0}, {10, 40, 0}, {30, 20, 0}, {20, 30, 0},
		{9, 30, 1}, {31, 30, 1}, {20, 19, 1}, {20, 41, 1},
		{7, 16, 25}, {33, 44, 25}, {7, 44, 25}, {33, 16, 25}, {0, 0, 500}, {-10, 30, 400},
	} {
		wantNearest(t, tree, c[0], c[1], 1, hit(1, c[2]))
	}
}

func TestNearestAtTheEdgesOfPlaces(t *testing.T) {
	tree := newTree(t, 4)
	wantPut(t, tree, 1, rect(-maxCoord, -maxCoord, -maxCoord, -maxCoord), api.OK)
	wantNearest(t, tree, maxCoord, maxCoord, 1, hit(1, 8*maxCoord*maxCoord))
	wantNearest(t, tree, -maxCoord, maxCoord, 1, hit(1, 4*maxCoord*maxCoord))
	wantNearest(t, tree, maxCoord, -maxCoord, 1, hit(1, 4*maxCoord*maxCoord))
	wantNearest(t, tree, -maxCoord, -maxCoord, 1, hit(1, 0))
	wantNearest(t, tree, maxCoord-1, maxCoord, 1, hit(1, (2*maxCoord-1)*(2*maxCoord-1)+4*maxCoord*maxCoord))
}

func TestOfTwoAsFarTheLowerNumberIsFirst(t *testing.T) {
	for fan := 4; fan <= 16; fan++ {
		tree, held := newTree(t, fan), model{}
		for i := range maxThings {
			// All lie as far from 0, 0: some along x, some along y, on both sides.
			at := []api.Rect{rect(50, -i, 60, i), rect(-60, -i, -50, i), rect(-i, 50, i, 60), rect(-i, -60, i, -50)}[i*7%4]
			held[i*3001%4096] = at
		}
		putAll(t, tree, held)
		for _, most := range []int{1, 2, 3, 50, 399, 400, 401} {
			hits := held.nearest(0, 0, most)
			wantNearest(t, tree, 0, 0, most, hits...)
			for _, h := range hits {
				if h.Far != 2500 {
					t.Fatalf("the test's own things do not lie as far: %v", h)
				}
			}
		}
	}
}

func TestNearestWithEachMost(t *testing.T) {
	for _, fan := range []int{4, 9, 16} {
		tree := newTree(t, fan)
		held := fill(t, tree, maxThings)
		all := held.nearest(150, 30, maxThings)
		for most := range maxThings + 1 {
			wantNearest(t, tree, 150, 30, most, all[:most]...)
		}
		for _, most := range []int{maxThings + 1, 1 << 32, greatest} {
			wantNearest(t, tree, 150, 30, most, all...)
		}
	}
}

func TestNearestWithoutThings(t *testing.T) {
	tree := newTree(t, 4)
	for _, most := range []int{0, 1, 400, greatest} {
		wantNearest(t, tree, 0, 0, most)
		wantNearest(t, tree, -maxCoord, maxCoord, most)
	}
}

func TestNearestToNoPlace(t *testing.T) {
	for _, out := range []int{maxCoord + 1, -maxCoord - 1, 1 << 32, -1 << 32, greatest, smallest} {
		for _, most := range []int{-1, 0, 1, greatest} {
			wantNoNearest(t, exampleTree(t), out, 0, most)
			wantNoNearest(t, exampleTree(t), 0, out, most)
			wantNoNearest(t, exampleTree(t), out, out, most)
			wantNoNearest(t, newTree(t, 4), out, out, most)
		}
	}
}

func TestNearestWithMostBelowZero(t *testing.T) {
	for _, most := range []int{-1, -2, -1 << 32, smallest} {
		wantNoNearest(t, exampleTree(t), 0, 0, most)
		wantNoNearest(t, newTree(t, 4), 0, 0, most)
	}
}
