package hedgerow_test

import (
	"testing"

	"hedgerow/api"
	"hedgerow/hedgerow"
)

// The tests write the document's numbers out, so that a changed constant is seen.
const (
	maxID     = 4095
	maxThings = 400
	maxCoord  = 1000000000
	greatest  = 1<<63 - 1
	smallest  = -1 << 63
)

func rect(x0, y0, x1, y1 int) api.Rect { return api.Rect{X0: x0, Y0: y0, X1: x1, Y1: y1} }

func newTree(t *testing.T, fan int) *hedgerow.Tree {
	t.Helper()
	tree, e := hedgerow.New(fan)
	if e != api.OK || tree == nil {
		t.Fatalf("New(%d) = %v, %d", fan, tree, e)
	}
	return tree
}

func wantPut(t *testing.T, tree *hedgerow.Tree, id int, r api.Rect, want api.Errno) {
	t.Helper()
	if got := tree.Put(id, r); got != want {
		t.Fatalf("Put(%d, %v) = %d, want %d", id, r, got, want)
	}
}

func wantDrop(t *testing.T, tree *hedgerow.Tree, id int, want api.Errno) {
	t.Helper()
	if got := tree.Drop(id); got != want {
		t.Fatalf("Drop(%d) = %d, want %d", id, got, want)
	}
}

func wantThing(t *testing.T, tree *hedgerow.Tree, id int, want api.Rect) {
	t.Helper()
	if got, e := tree.Get(id); got != want || e != api.OK {
		t.Fatalf("Get(%d) = %v, %d, want %v, 0", id, got, e, want)
	}
}

func wantNothing(t *testing.T, tree *hedgerow.Tree, id int) {
	t.Helper()
	if got, e := tree.Get(id); got != (api.Rect{}) || e != api.ErrNone {
		t.Fatalf("Get(%d) = %v, %d, want nothing and ErrNone", id, got, e)
	}
}

func wantLen(t *testing.T, tree *hedgerow.Tree, want int) {
	t.Helper()
	if got := tree.Len(); got != want {
		t.Fatalf("Len() = %d, want %d", got, want)
	}
}

// model is what a tree must hold, by number.
type model map[int]api.Rect

// wantAll asks for every number that may be, and one beside them at each end.
func wantAll(t *testing.T, tree *hedgerow.Tree, want model) {
	t.Helper()
	wantLen(t, tree, len(want))
	for id := -1; id <= maxID+1; id++ {
		wantOne(t, tree, id, want)
	}
}

func wantOne(t *testing.T, tree *hedgerow.Tree, id int, want model) {
	t.Helper()
	if r, ok := want[id]; ok {
		wantThing(t, tree, id, r)
	} else {
		wantNothing(t, tree, id)
	}
}

// fill puts so many things, spread over all the numbers, the first and the last among them.
func fill(t *testing.T, tree *hedgerow.Tree, count int) model {
	t.Helper()
	held := model{}
	for i := range count {
		id := i * maxID / max(count-1, 1)
		held[id] = rect(i, -i, 2*i+1, i)
		wantPut(t, tree, id, held[id], api.OK)
		wantLen(t, tree, i+1)
	}
	return held
}
