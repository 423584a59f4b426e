package boxes

import (
	"math"
	"testing"

	"hedgerow/api"
)

func rect(x0, y0, x1, y1 int) api.Rect { return api.Rect{X0: x0, Y0: y0, X1: x1, Y1: y1} }

func TestRoundingOutward(t *testing.T) {
	for _, c := range []struct {
		n        int
		down, up float32
	}{
		{0, 0, 0},
		{7, 7, 7},
		{-7, -7, -7},
		{1 << 24, 1 << 24, 1 << 24},
		{1<<24 + 1, 1 << 24, 1<<24 + 2},
		{1<<24 + 3, 1<<24 + 2, 1<<24 + 4},
		{-1<<24 - 1, -1<<24 - 2, -1 << 24},
		{999999999, 999999936, 1000000000},
		{999999937, 999999936, 1000000000},
		{999999936, 999999936, 999999936},
		{1000000000, 1000000000, 1000000000},
		{-999999999, -1000000000, -999999936},
		{-999999937, -1000000000, -999999936},
		{-1000000000, -1000000000, -1000000000},
	} {
		if down, up := roundDown(c.n), roundUp(c.n); down != c.down || up != c.up {
			t.Errorf("%d is rounded to %v and %v, want %v and %v", c.n, down, up, c.down, c.up)
		}
	}
}

func TestRoundingIsNearAndNeverInward(t *testing.T) {
	inf := float32(math.Inf(1))
	for n := -api.MaxCoord; n <= api.MaxCoord; n += 9973 {
		down, up := roundDown(n), roundUp(n)
		if int(down) > n || int(math.Nextafter32(down, inf)) <= n && float64(down) != float64(n) {
			t.Fatalf("%d is rounded down to %v", n, down)
		}
		if int(up) < n || int(math.Nextafter32(up, -inf)) >= n && float64(up) != float64(n) {
			t.Fatalf("%d is rounded up to %v", n, up)
		}
	}
}

func TestBoxesMeetAtEdgesAndCorners(t *testing.T) {
	b := boxOf(rect(0, 0, 10, 10))
	for _, c := range []struct {
		r    api.Rect
		want bool
	}{
		{rect(3, 3, 4, 4), true},
		{rect(-5, -5, 20, 20), true},
		{rect(10, 10, 20, 20), true},
		{rect(-9, -9, 0, 0), true},
		{rect(10, -5, 12, 0), true},
		{rect(0, 10, 10, 12), true},
		{rect(11, 0, 12, 10), false},
		{rect(-2, 0, -1, 10), false},
		{rect(0, 11, 10, 12), false},
		{rect(0, -2, 10, -1), false},
	} {
		o := boxOf(c.r)
		if b.meets(o) != c.want || o.meets(b) != c.want {
			t.Errorf("%v meets %v: %v and %v, want %v", b, o, b.meets(o), o.meets(b), c.want)
		}
		if nowhere().meets(o) || o.meets(nowhere()) {
			t.Errorf("nothing meets %v", o)
		}
	}
}

func TestGrowing(t *testing.T) {
	b := nowhere()
	b.grow(nowhere())
	if b != nowhere() {
		t.Errorf("nothing grew to %v", b)
	}
	b.grow(boxOf(rect(5, 6, 7, 8)))
	if b != (box{5, 6, 7, 8}) {
		t.Errorf("nothing grew to %v", b)
	}
	b.grow(boxOf(rect(0, 7, 6, 20)))
	if b != (box{0, 6, 7, 20}) {
		t.Errorf("the box grew to %v", b)
	}
	b.grow(nowhere())
	if b != (box{0, 6, 7, 20}) {
		t.Errorf("the box grew by nothing to %v", b)
	}
	if n := b.growth(box{-1, 0, 0, 0}); n != 7 || b != (box{0, 6, 7, 20}) {
		t.Errorf("the growth is %d, of %v", n, b)
	}
}

func TestNothingIsNearerThanItsBox(t *testing.T) {
	for _, at := range []int{0, 5, 1<<24 + 1, 999999999, -999999999, api.MaxCoord, -api.MaxCoord} {
		r := rect(at, -at, at, -at)
		for _, x := range []int{-api.MaxCoord, 0, 999999998, api.MaxCoord} {
			if near, real := boxOf(r).far(x, x), far(r, x, x); near > real || near < 0 {
				t.Errorf("%d, %d is %d from the box of %v, but %d from it", x, x, near, r, real)
			}
		}
	}
}
