package boxes

import (
	"testing"

	"hedgerow/api"
)

// look is what a walk through a tree finds.
type look struct {
	t      *testing.T
	fan    int
	things map[int]*thing
	nodes  int
}

func (l *look) node(n *node, level int, isRoot bool) {
	l.t.Helper()
	l.nodes++
	if (level == 1) != n.isLeaf() || len(n.things) > 0 && len(n.below) > 0 {
		l.t.Fatalf("at level %d a node holds %d things and %d nodes", level, len(n.things), len(n.below))
	}
	fewest := max(2, 2*l.fan/5)
	if isRoot {
		fewest = 2
	}
	if isRoot && n.isLeaf() {
		fewest = 0
	}
	if n.count() < fewest || n.count() > l.fan {
		l.t.Fatalf("at level %d a node holds %d, by fan %d", level, n.count(), l.fan)
	}
	want := nowhere()
	for _, g := range n.things {
		want.grow(g.box)
		l.thing(g)
	}
	for _, c := range n.below {
		want.grow(c.box)
		l.node(c, level-1, false)
	}
	if n.box != want {
		l.t.Fatalf("a node's box is %v, want %v", n.box, want)
	}
}

func (l *look) thing(g *thing) {
	l.t.Helper()
	b := g.box
	if float64(b.x0) > float64(g.rect.X0) || float64(b.y0) > float64(g.rect.Y0) || float64(b.x1) < float64(g.rect.X1) || float64(b.y1) < float64(g.rect.Y1) {
		l.t.Fatalf("the box %v leaves out a part of %v", b, g.rect)
	}
	if l.things[g.id] != nil {
		l.t.Fatalf("the thing %d stands there twice", g.id)
	}
	l.things[g.id] = g
}

// wantSound holds a tree against what the document's section Words says of one.
func wantSound(t *testing.T, tree *Tree) {
	t.Helper()
	l := &look{t: t, fan: tree.fan, things: map[int]*thing{}}
	l.node(tree.root, tree.Height(), true)
	if len(l.things) != tree.Len() {
		t.Fatalf("%d things stand in the boxes, want %d", len(l.things), tree.Len())
	}
	for id, g := range tree.things {
		if l.things[id] != g || g.id != id {
			t.Fatalf("the thing %d in the boxes is not the one that is told", id)
		}
	}
}

// shapes are ways to lay many things: spread, in heaps, in lines, all at one place, where float32 is coarse.
func shapes() map[string]func(i int) api.Rect {
	return map[string]func(i int) api.Rect{
		"spread": func(i int) api.Rect { x, y := i*7919%1009, i*6101%1013; return rect(x, y, x+i%13, y+i%7) },
		"heaps":  func(i int) api.Rect { x := i % 5 * 100000; return rect(x+i, x-i, x+i+1, x-i+1) },
		"line":   func(i int) api.Rect { return rect(i, 0, i, 0) },
		"column": func(i int) api.Rect { return rect(-3, -i, -3, -i) },
		"one":    func(int) api.Rect { return rect(1, 2, 3, 4) },
		"coarse": func(i int) api.Rect { return rect(api.MaxCoord-i, i-api.MaxCoord, api.MaxCoord-i/2, i-api.MaxCoord) },
		"nested": func(i int) api.Rect { return rect(-i*999, -i*999, i*999, i*999) },
		"corners": func(i int) api.Rect {
			x, y := (i%2*2-1)*api.MaxCoord, (i/2%2*2-1)*api.MaxCoord
			return rect(x, y, x, y)
		},
	}
}

func TestTreesAreSound(t *testing.T) {
	for name, shape := range shapes() {
		t.Run(name, func(t *testing.T) {
			for fan := api.MinFan; fan <= api.MaxFan; fan++ {
				upAndDown(t, New(fan), shape)
			}
		})
	}
}

// upAndDown puts things, moves them, and drops them from here and there, twice.
func upAndDown(t *testing.T, tree *Tree, shape func(int) api.Rect) {
	t.Helper()
	const many = 130
	wantSound(t, tree)
	for range 2 {
		for i := range many {
			tree.Put(i, shape(i))
			wantSound(t, tree)
		}
		for i := range many {
			tree.Put(i*7%many, shape(many-i))
			wantSound(t, tree)
		}
		for i := range many {
			tree.Drop(i * 149 % many)
			wantSound(t, tree)
		}
		if tree.Len() != 0 || tree.Height() != 1 || tree.root.box != nowhere() {
			t.Fatalf("without things a tree has %d of them, height %d, box %v", tree.Len(), tree.Height(), tree.root.box)
		}
	}
}

func TestDropOfNothingLeavesTheTree(t *testing.T) {
	tree := New(4)
	tree.Drop(1)
	tree.Put(2, rect(0, 0, 1, 1))
	tree.Drop(1)
	wantSound(t, tree)
	if tree.Len() != 1 {
		t.Errorf("there are %d things", tree.Len())
	}
}

func TestAWindowIsFoundWithoutLookingAtAll(t *testing.T) {
	for _, fan := range []int{4, 9, 16} {
		tree := New(fan)
		for i := range api.MaxThings {
			x, y := i*7%20*100, i*7/20%20*100
			tree.Put(i, rect(x, y, x+10, y+10))
		}
		l := &look{t: t, fan: fan, things: map[int]*thing{}}
		l.node(tree.root, tree.Height(), true)
		window := boxOf(rect(500, 500, 510, 510))
		if seen := nodesMeeting(tree.root, window); seen*4 > l.nodes {
			t.Errorf("by fan %d, %d of %d nodes meet a small window", fan, seen, l.nodes)
		}
	}
}

func nodesMeeting(n *node, b box) int {
	if !n.meets(b) {
		return 0
	}
	seen := 1
	for _, c := range n.below {
		seen += nodesMeeting(c, b)
	}
	return seen
}
