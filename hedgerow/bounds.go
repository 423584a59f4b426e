package hedgerow

import "hedgerow/api"

func isFan(n int) bool { return api.MinFan <= n && n <= api.MaxFan }

func isID(n int) bool { return 0 <= n && n <= api.MaxID }

// isCoord compares with both bounds, as the least int has no counterpart above 0 that abs could give.
func isCoord(n int) bool { return -api.MaxCoord <= n && n <= api.MaxCoord }

func isPlace(x, y int) bool { return isCoord(x) && isCoord(y) }

func isRect(r api.Rect) bool {
	return isPlace(r.X0, r.Y0) && isPlace(r.X1, r.Y1) && r.X0 <= r.X1 && r.Y0 <= r.Y1
}
