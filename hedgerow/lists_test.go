package hedgerow_test

import (
	"slices"
	"testing"

	"hedgerow/api"
	"hedgerow/hedgerow"
)

// P2: lists that come out

// allLists tells each list that a tree gives out, some of them twice.
func allLists(t *testing.T, tree *hedgerow.Tree, w api.Rect, most int) ([][]int, [][]api.Hit) {
	t.Helper()
	var ids [][]int
	var hits [][]api.Hit
	for range 2 {
		meeting, e := tree.Meets(w)
		within, f := tree.Within(w)
		nearest, g := tree.Nearest(w.X0, w.Y0, most)
		if e != api.OK || f != api.OK || g != api.OK {
			t.Fatalf("Meets, Within, Nearest: %d, %d, %d", e, f, g)
		}
		ids = append(ids, meeting, within)
		hits = append(hits, nearest)
	}
	return ids, hits
}

// scribble writes over a list and its spare room.
func scribble[T any](list []T, v T) {
	list = list[:cap(list)]
	for i := range list {
		list[i] = v
	}
}

// wantApart writes into each list in turn, and looks whether another one changes.
func wantApart[T comparable](t *testing.T, lists [][]T, v T) {
	t.Helper()
	for i := range lists {
		var ahead [][]T
		for _, l := range lists {
			ahead = append(ahead, slices.Clone(l[:cap(l)]))
		}
		scribble(lists[i], v)
		for j, l := range lists {
			if j != i && !slices.Equal(l[:cap(l)], ahead[j]) {
				t.Fatalf("writing into list %d changed list %d", i, j)
			}
		}
	}
}

func TestListsAreTheCallers(t *testing.T) {
	for _, count := range []int{1, 2, 5, 13, 100, maxThings} {
		tree := newTree(t, 4)
		held := fill(t, tree, count)
		for _, w := range []api.Rect{everywhere, rect(0, 0, 3, 3), rect(-9, -9, 50, 50)} {
			ids, hits := allLists(t, tree, w, count-1)
			more, moreHits := allLists(t, tree, w, greatest)
			wantApart(t, append(ids, more...), -77)
			wantApart(t, append(hits, moreHits...), hit(-77, -77))
			wantFound(t, tree, held, w)
		}
		wantAll(t, tree, held)
		wantPairs(t, tree, held.pairs())
		wantHeight(t, tree, 4, count)
	}
}

func TestListsStayAsTheyWereTold(t *testing.T) {
	tree := newTree(t, 4)
	held := fill(t, tree, 50)
	ids, _ := tree.Meets(everywhere)
	hits, _ := tree.Nearest(0, 0, 50)
	wantIDs, wantHits := slices.Clone(ids), slices.Clone(hits)
	for _, id := range held.ids() {
		wantPut(t, tree, id, rect(900, 900, 900, 900), api.OK)
		wantDrop(t, tree, id, api.OK)
	}
	wantFound(t, tree, model{}, everywhere)
	if !slices.Equal(ids, wantIDs) || !slices.Equal(hits, wantHits) {
		t.Fatalf("lists that were told have changed: %v, %v", ids, hits)
	}
}
