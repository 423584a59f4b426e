package boxes

import (
	"slices"
	"testing"

	"hedgerow/api"
)

func thingAt(id int, r api.Rect) *thing { return &thing{box: boxOf(r), id: id, rect: r} }

// trapped is a tree with a node in which it would panic, if it were looked into: it lies far from 0, 0, and stands first.
func trapped() *Tree {
	tree := New(4)
	home := &node{things: []*thing{thingAt(1, rect(0, 0, 1, 1)), thingAt(2, rect(4, 4, 9, 9)), thingAt(3, rect(3, 0, 3, 0))}}
	home.fit()
	trap := &node{box: boxOf(rect(1000, 1000, 1001, 1001)), below: []*node{nil}}
	tree.root = &node{below: []*node{trap, home}}
	tree.root.box = boxOf(rect(0, 0, 1001, 1001))
	return tree
}

func TestSearchesLeaveOutNodesThatTheyDoNotMeet(t *testing.T) {
	tree := trapped()
	if got := tree.Meeting(rect(0, 0, 5, 5)); !slices.Equal(got, []int{1, 2, 3}) {
		t.Errorf("Meeting = %v", got)
	}
	if got := tree.Within(rect(0, 0, 5, 5)); !slices.Equal(got, []int{1, 3}) {
		t.Errorf("Within = %v", got)
	}
	want := []api.Hit{{ID: 1, Far: 0}, {ID: 3, Far: 9}, {ID: 2, Far: 32}}
	if got := tree.Nearest(0, 0, 3); !slices.Equal(got, want) {
		t.Errorf("Nearest = %v", got)
	}
}

func TestDropLeavesOutNodesThatTheThingDoesNotMeet(t *testing.T) {
	tree := trapped()
	home := tree.root.below[1]
	if !home.drop(home.things[2], 4) || home.count() != 2 {
		t.Errorf("a leaf of three holds %d behind a drop", home.count())
	}
	if tree.root.drop(thingAt(1, rect(0, 0, 1, 1)), 4) {
		t.Error("a thing that is not in the tree was dropped")
	}
}

func TestVisitShowsWhatMeets(t *testing.T) {
	tree := trapped()
	var seen []int
	tree.root.visit(boxOf(rect(2, 0, 4, 4)), func(g *thing) { seen = append(seen, g.id) })
	if !slices.Equal(seen, []int{2, 3}) {
		t.Errorf("visit shows %v", seen)
	}
}

func idsOf(list []*thing) []int {
	var ids []int
	for _, g := range list {
		ids = append(ids, g.id)
	}
	slices.Sort(ids)
	return ids
}

func TestHalvesLieApart(t *testing.T) {
	for _, isAlongX := range []bool{true, false} {
		var list []*thing
		// Two heaps, 1 to 4 and 5 to 7, given in no order; the other coordinate would mix them.
		for _, id := range []int{5, 1, 6, 2, 3, 7, 4} {
			x, y := id/5*1000+id, id*3%7*10
			if !isAlongX {
				x, y = y, x
			}
			list = append(list, thingAt(id, rect(x, y, x+5, y+5)))
		}
		a, b := halve(list, 2)
		if !slices.Equal(idsOf(a), []int{1, 2, 3, 4}) || !slices.Equal(idsOf(b), []int{5, 6, 7}) {
			t.Errorf("the halves are %v and %v", idsOf(a), idsOf(b))
		}
		if a = append(a, list[1], list[1], list[1]); !slices.Equal(idsOf(b), []int{5, 6, 7}) {
			t.Errorf("the first half grew into the second: %v, %v", idsOf(a), idsOf(b))
		}
	}
}

func TestHalvesHoldEnough(t *testing.T) {
	for fan := api.MinFan; fan <= api.MaxFan; fan++ {
		for count := fan + 1; count < fan+least(fan); count++ {
			var list []*thing
			for id := range count {
				// The last one lies alone: to cut it off would be best, were it allowed.
				list = append(list, thingAt(id, rect(id/(count-1)*1000, 0, id/(count-1)*1000, 0)))
			}
			a, b := halve(list, least(fan))
			if len(a)+len(b) != count || min(len(a), len(b)) < least(fan) || max(len(a), len(b)) > fan {
				t.Errorf("%d are cut in %d and %d, by fan %d", count, len(a), len(b), fan)
			}
		}
	}
}
