package boxes

import (
	"slices"

	"hedgerow/api"
)

// Tree is a tree of boxes. It looks at no bounds: who calls has done so.
type Tree struct {
	fan    int
	root   *node
	things map[int]*thing
}

// New makes a tree without things.
func New(fan int) *Tree {
	root := &node{}
	root.fit()
	return &Tree{fan: fan, root: root, things: make(map[int]*thing)}
}

// Put gives a thing a rectangle, whatever it had.
func (t *Tree) Put(id int, r api.Rect) {
	t.Drop(id)
	g := &thing{box: boxOf(r), id: id, rect: r}
	t.things[id] = g
	if other := t.root.put(g, t.fan); other != nil {
		t.root = &node{below: []*node{t.root, other}}
		t.root.fit()
	}
}

// Drop takes a thing out, if it is there.
func (t *Tree) Drop(id int) {
	g, ok := t.things[id]
	if !ok {
		return
	}
	delete(t.things, id)
	t.root.drop(g, t.fan)
	if len(t.root.below) == 1 {
		t.root = t.root.below[0]
	}
}

// Get tells a thing's rectangle, and whether there is such a thing.
func (t *Tree) Get(id int) (api.Rect, bool) {
	g, ok := t.things[id]
	if !ok {
		return api.Rect{}, false
	}
	return g.rect, true
}

// Len tells how many things there are.
func (t *Tree) Len() int { return len(t.things) }

// Height tells how many levels there are.
func (t *Tree) Height() int {
	levels := 1
	// Any way down will do: all leaves are at the lowest level.
	for n := t.root; !n.isLeaf(); n = n.below[0] {
		levels++
	}
	return levels
}

// Meeting tells the things that have a place in common with a window, in order.
func (t *Tree) Meeting(window api.Rect) []int { return t.find(window, meet) }

// Within tells the things that lie in a window, in order.
func (t *Tree) Within(window api.Rect) []int { return t.find(window, holds) }

func (t *Tree) find(window api.Rect, fits func(window, r api.Rect) bool) []int {
	var ids []int
	t.root.visit(boxOf(window), func(g *thing) {
		if fits(window, g.rect) {
			ids = append(ids, g.id)
		}
	})
	slices.Sort(ids)
	return ids
}

// Pairs tells how many pairs of two things have a place in common.
func (t *Tree) Pairs() int {
	pairs := 0
	for _, a := range t.things {
		t.root.visit(a.edges(), func(b *thing) {
			// Each pair comes twice, and each thing meets itself.
			if a.id < b.id && meet(a.rect, b.rect) {
				pairs++
			}
		})
	}
	return pairs
}
