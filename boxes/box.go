// Package boxes: the tree of boxes in which things stand.
package boxes

import (
	"cmp"
	"math"

	"hedgerow/api"
)

// box has edges that are rounded outward: it may be greater than what is in it, never less.
type box struct {
	x0, y0, x1, y1 float32
}

// nowhere is the box of nothing: it meets no box, and grows to just what it is given.
func nowhere() box {
	inf := float32(math.Inf(1))
	return box{inf, inf, -inf, -inf}
}

func boxOf(r api.Rect) box {
	return box{roundDown(r.X0), roundDown(r.Y0), roundUp(r.X1), roundUp(r.Y1)}
}

// roundDown may hold the two numbers against each other as ints, as the float32 nearest to an int is whole.
func roundDown(n int) float32 {
	f := float32(n)
	if int(f) > n {
		return math.Nextafter32(f, float32(math.Inf(-1)))
	}
	return f
}

func roundUp(n int) float32 {
	f := float32(n)
	if int(f) < n {
		return math.Nextafter32(f, float32(math.Inf(1)))
	}
	return f
}

// edges gives the box itself: promoted, it is how what embeds a box tells it.
func (b box) edges() box { return b }

func (b *box) grow(o box) {
	b.x0, b.y0 = min(b.x0, o.x0), min(b.y0, o.y0)
	b.x1, b.y1 = max(b.x1, o.x1), max(b.y1, o.y1)
}

func (b box) meets(o box) bool {
	return b.x0 <= o.x1 && o.x0 <= b.x1 && b.y0 <= o.y1 && o.y0 <= b.y1
}

// whole gives the box as ints, exactly: edges that were rounded are whole too.
func (b box) whole() api.Rect {
	return api.Rect{X0: int(b.x0), Y0: int(b.y0), X1: int(b.x1), Y1: int(b.y1)}
}

// far is never more than how far the place is from a rectangle in the box.
func (b box) far(x, y int) int { return far(b.whole(), x, y) }

// span is how wide and high the box is together: unlike the area it also tells lines and places apart.
func (b box) span() int {
	r := b.whole()
	return r.X1 - r.X0 + r.Y1 - r.Y0
}

// growth is by how much the span would grow, if the box grew.
func (b box) growth(o box) int {
	grown := b
	grown.grow(o)
	return grown.span() - b.span()
}

func (b box) compareX(o box) int {
	return cmp.Or(cmp.Compare(b.x0, o.x0), cmp.Compare(b.x1, o.x1))
}

func (b box) compareY(o box) int {
	return cmp.Or(cmp.Compare(b.y0, o.y0), cmp.Compare(b.y1, o.y1))
}
