package boxes

import (
	"cmp"
	"slices"

	"hedgerow/api"
)

// thing is what a leaf holds.
type thing struct {
	box
	id   int
	rect api.Rect
}

// node holds things, if it is a leaf, or else nodes of the level below. Its box is just that of all it holds.
type node struct {
	box
	things []*thing
	below  []*node
}

// held is what a node may hold: its methods are those of the embedded box.
type held interface {
	*thing | *node
	edges() box
}

// least is how many a node holds at least, unless it is the root.
func least(fan int) int { return max(2, 2*fan/5) }

func boxAround[T held](list []T) box {
	b := nowhere()
	for _, h := range list {
		b.grow(h.edges())
	}
	return b
}

func (n *node) isLeaf() bool { return len(n.below) == 0 }

func (n *node) count() int { return len(n.things) + len(n.below) }

// fit makes the box that of what the node holds now.
func (n *node) fit() {
	n.box = boxAround(n.things)
	n.grow(boxAround(n.below))
}

// put puts a thing below the node; what the node can't hold then goes to a new one, which is told.
func (n *node) put(g *thing, fan int) *node {
	n.grow(g.edges())
	if n.isLeaf() {
		n.things = append(n.things, g)
	} else if other := closest(n.below, g.edges()).put(g, fan); other != nil {
		n.below = append(n.below, other)
	}
	return n.cut(fan)
}

// closest is the node that grows least by a box; of two the smaller one, so that great ones don't grow greater.
func closest(list []*node, b box) *node {
	return slices.MinFunc(list, func(p, q *node) int {
		return cmp.Or(cmp.Compare(p.growth(b), q.growth(b)), cmp.Compare(p.span(), q.span()))
	})
}

// cut makes a new node of a part of one that holds more than the fan, and of others none.
func (n *node) cut(fan int) *node {
	if n.count() <= fan {
		return nil
	}
	other := &node{}
	if n.isLeaf() {
		n.things, other.things = halve(n.things, least(fan))
	} else {
		n.below, other.below = halve(n.below, least(fan))
	}
	n.fit()
	other.fit()
	return other
}

// drop takes a thing out from below the node, and tells whether it was there.
func (n *node) drop(g *thing, fan int) bool {
	if i := slices.Index(n.things, g); i >= 0 {
		n.things = slices.Delete(n.things, i, i+1)
		n.fit()
		return true
	}
	for i, b := range n.below {
		if b.meets(g.edges()) && b.drop(g, fan) {
			n.mend(i, fan)
			n.fit()
			return true
		}
	}
	return false
}

// mend lays the node at i, if it holds too little, together with one beside it. There is one: a node that is no leaf holds two at least.
func (n *node) mend(i, fan int) {
	poor := n.below[i]
	if poor.count() >= least(fan) {
		return
	}
	n.below = slices.Delete(n.below, i, i+1)
	joined := closest(n.below, poor.edges())
	joined.things = append(joined.things, poor.things...)
	joined.below = append(joined.below, poor.below...)
	joined.fit()
	if other := joined.cut(fan); other != nil {
		n.below = append(n.below, other)
	}
}

// visit shows the things below the node whose boxes meet a box.
func (n *node) visit(b box, see func(*thing)) {
	for _, g := range n.things {
		if g.meets(b) {
			see(g)
		}
	}
	for _, c := range n.below {
		if c.meets(b) {
			c.visit(b, see)
		}
	}
}
