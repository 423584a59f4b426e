package boxes

import (
	"cmp"
	"container/heap"

	"hedgerow/api"
)

// waiting is what a search for the nearest has still ahead: a thing with how far it is, or a node with how far its box is.
type waiting struct {
	api.Hit
	node *node
}

// aheadOfAll is the number of a node among the waiting: it goes ahead of things as far, as it may hold one with a lower number.
const aheadOfAll = -1

// queue has the nearest first; of two as far the one with the lower number.
type queue []waiting

func (q queue) Len() int { return len(q) }

func (q queue) Less(i, j int) bool {
	return cmp.Or(cmp.Compare(q[i].Far, q[j].Far), cmp.Compare(q[i].ID, q[j].ID)) < 0
}

func (q queue) Swap(i, j int) { q[i], q[j] = q[j], q[i] }

func (q *queue) Push(x any) { *q = append(*q, x.(waiting)) }

func (q *queue) Pop() any {
	last := len(*q) - 1
	w := (*q)[last]
	*q = (*q)[:last]
	return w
}

// open lets all wait that a node holds.
func (q *queue) open(n *node, x, y int) {
	for _, g := range n.things {
		heap.Push(q, waiting{Hit: api.Hit{ID: g.id, Far: far(g.rect, x, y)}})
	}
	for _, c := range n.below {
		heap.Push(q, waiting{Hit: api.Hit{ID: aheadOfAll, Far: c.far(x, y)}, node: c})
	}
}

// Nearest tells the things that are nearest to a place, the nearest first, of two as far the one with the lower number: at most so many.
func (t *Tree) Nearest(x, y, most int) []api.Hit {
	var hits []api.Hit
	q := &queue{{node: t.root}}
	for q.Len() > 0 && len(hits) < most {
		w := heap.Pop(q).(waiting)
		if w.node == nil {
			hits = append(hits, w.Hit)
		} else {
			q.open(w.node, x, y)
		}
	}
	return hits
}
