package boxes

import "hedgerow/api"

// What a tree tells is reckoned here, by whole numbers; the boxes tell only where to look.

func meet(a, b api.Rect) bool {
	return a.X0 <= b.X1 && b.X0 <= a.X1 && a.Y0 <= b.Y1 && b.Y0 <= a.Y1
}

func holds(a, b api.Rect) bool {
	return a.X0 <= b.X0 && b.X1 <= a.X1 && a.Y0 <= b.Y0 && b.Y1 <= a.Y1
}

// far is at most 8 * MaxCoord * MaxCoord, which an int holds.
func far(r api.Rect, x, y int) int {
	dx, dy := beside(x, r.X0, r.X1), beside(y, r.Y0, r.Y1)
	return dx*dx + dy*dy
}

// beside is how far a number is from the nearest one from low to high.
func beside(n, low, high int) int { return max(low-n, n-high, 0) }
