package hedgerow_test

import (
	"slices"
	"testing"

	"hedgerow/api"
	"hedgerow/hedgerow"
)

// P10

// window is one that may be small or great, and lies anywhere.
func (d *dice) window() api.Rect {
	x, y := d.below(2400)-1200, d.below(2400)-1200
	return rect(x, y, x+d.below(900), y+d.below(900))
}

// spread has so many things, some small, some great, some far out.
func (d *dice) spread(count int) model {
	held := model{}
	for len(held) < count {
		r := d.window()
		if d.below(3) > 0 {
			r.X1, r.Y1 = r.X0+d.below(20), r.Y0+d.below(20)
		}
		if d.below(20) == 0 {
			r = rect(-maxCoord+d.below(3), r.Y0, maxCoord-d.below(3), r.Y1)
		}
		held.put(d.below(maxID+1), r)
	}
	return held
}

func treeOf(t *testing.T, fan int, held model) *hedgerow.Tree {
	t.Helper()
	tree := newTree(t, fan)
	putAll(t, tree, held)
	return tree
}

func meets(t *testing.T, tree *hedgerow.Tree, w api.Rect) []int {
	t.Helper()
	ids, e := tree.Meets(w)
	if e != api.OK {
		t.Fatalf("Meets(%v): %d", w, e)
	}
	return ids
}

func TestWhatLiesInAWindowMeetsIt(t *testing.T) {
	var d dice = 11
	for fan := 4; fan <= 16; fan += 3 {
		tree := treeOf(t, fan, d.spread(maxThings))
		for range 300 {
			w := d.window()
			within, e := tree.Within(w)
			if e != api.OK {
				t.Fatalf("Within(%v): %d", w, e)
			}
			meeting := meets(t, tree, w)
			for _, id := range within {
				if !slices.Contains(meeting, id) {
					t.Fatalf("%d lies in %v, but does not meet it", id, w)
				}
			}
		}
	}
}

// halves cuts a window in two, between two places or at one that then belongs to both.
func halves(w api.Rect, at int, gap int, byX bool) (api.Rect, api.Rect) {
	if byX {
		return rect(w.X0, w.Y0, at, w.Y1), rect(at+gap, w.Y0, w.X1, w.Y1)
	}
	return rect(w.X0, w.Y0, w.X1, at), rect(w.X0, at+gap, w.X1, w.Y1)
}

func wantCut(t *testing.T, tree *hedgerow.Tree, w api.Rect, at int, gap int, byX bool) {
	t.Helper()
	a, b := halves(w, at, gap, byX)
	union := append(meets(t, tree, a), meets(t, tree, b)...)
	slices.Sort(union)
	if got := meets(t, tree, w); !slices.Equal(got, slices.Compact(union)) {
		t.Fatalf("%v meets %v, its parts %v and %v meet %v", w, got, a, b, union)
	}
}

func TestAWindowThatIsCutInTwo(t *testing.T) {
	var d dice = 12
	for fan := 4; fan <= 16; fan += 3 {
		tree := treeOf(t, fan, d.spread(maxThings))
		for range 100 {
			w := d.window()
			w.X1, w.Y1 = w.X1+1, w.Y1+1
			for gap := range 2 {
				wantCut(t, tree, w, w.X0+d.below(w.X1-w.X0), gap, true)
				wantCut(t, tree, w, w.Y0+d.below(w.Y1-w.Y0), gap, false)
			}
		}
		wantCut(t, tree, everywhere, maxCoord-1, 1, true)
		wantCut(t, tree, everywhere, -maxCoord, 1, false)
	}
}

func TestFewerNearestAreTheBeginningOfMore(t *testing.T) {
	var d dice = 13
	for fan := 4; fan <= 16; fan += 3 {
		tree := treeOf(t, fan, d.spread(maxThings))
		for range 5 {
			x, y := d.below(3000)-1500, d.below(3000)-1500
			all, e := tree.Nearest(x, y, greatest)
			if e != api.OK || len(all) != maxThings {
				t.Fatalf("Nearest(%d, %d, %d): %d, %d", x, y, greatest, len(all), e)
			}
			for most := range maxThings + 2 {
				wantNearest(t, tree, x, y, most, all[:min(most, maxThings)]...)
			}
			for i := 1; i < len(all); i++ {
				if a, b := all[i-1], all[i]; a.Far > b.Far || a.Far == b.Far && a.ID >= b.ID {
					t.Fatalf("Nearest(%d, %d, ..) tells %v ahead of %v", x, y, a, b)
				}
			}
		}
	}
}

// orders tells the numbers in several orders.
func (d *dice) orders(ids []int) [][]int {
	back := slices.Clone(ids)
	slices.Reverse(back)
	list := [][]int{ids, back}
	for range 3 {
		mixed := slices.Clone(ids)
		for i := range mixed {
			j := i + d.below(len(mixed)-i)
			mixed[i], mixed[j] = mixed[j], mixed[i]
		}
		list = append(list, mixed)
	}
	return list
}

func TestTheOrderOfPuttingDoesNotMatter(t *testing.T) {
	var d dice = 14
	for _, count := range []int{1, 5, 17, 100, maxThings} {
		held := d.spread(count)
		windows := []api.Rect{d.window(), d.window(), d.window(), d.window()}
		for i, order := range d.orders(held.ids()) {
			tree := newTree(t, 4+3*i)
			for _, id := range order {
				wantPut(t, tree, id, held[id], api.OK)
			}
			wantTree(t, tree, 4+3*i, held)
			for _, w := range windows {
				wantFound(t, tree, held, w)
			}
		}
	}
}

func TestWhatWasThereAheadDoesNotMatter(t *testing.T) {
	var d dice = 15
	held := d.spread(200)
	tree := treeOf(t, 4, d.spread(200))
	for _, id := range meets(t, tree, everywhere) {
		wantDrop(t, tree, id, api.OK)
	}
	for _, id := range held.ids() {
		wantPut(t, tree, id, d.window(), api.OK)
	}
	putAll(t, tree, held)
	wantTree(t, tree, 4, held)
}

func TestALogCutOffMakesTheTreeBehindARecord(t *testing.T) {
	for _, fan := range []int{4, 16} {
		tree, l := newTree(t, fan), newLedger(fan)
		heights := []int{tree.Height()}
		d := dice(fan)
		for range 500 {
			oneWritten(t, tree, l, &d, 300)
			if len(l.ends) > len(heights) {
				heights = append(heights, tree.Height())
			}
		}
		for range 150 {
			size := 6 + d.below(len(l.log)-5)
			count := l.cut(size)
			again := wantReplay(t, l.log[:size], l.ends[count-1])
			wantTree(t, again, fan, l.past[count-1])
			if h := again.Height(); h != heights[count-1] {
				t.Fatalf("behind %d records the height was %d, and replayed it is %d", count, heights[count-1], h)
			}
		}
	}
}
