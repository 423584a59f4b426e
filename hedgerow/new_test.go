package hedgerow_test

import (
	"testing"

	"hedgerow/api"
	"hedgerow/hedgerow"
)

// P3

func TestNewAtEachFan(t *testing.T) {
	for fan := 4; fan <= 16; fan++ {
		wantAll(t, newTree(t, fan), model{})
	}
}

func TestNewOutsideTheFans(t *testing.T) {
	// The numbers with 4 in their low bytes would pass if they were cut off ahead of being looked at.
	for _, fan := range []int{3, 17, 2, 0, -1, -4, -16, 18, 1<<8 + 4, 1<<32 + 4, greatest, greatest - 1, smallest, smallest + 4} {
		if tree, e := hedgerow.New(fan); tree != nil || e != api.ErrArg {
			t.Errorf("New(%d) = %v, %d, want nil and ErrArg", fan, tree, e)
		}
	}
}

func TestEachFanHoldsAllThings(t *testing.T) {
	for fan := 4; fan <= 16; fan++ {
		tree := newTree(t, fan)
		held := fill(t, tree, maxThings)
		wantAll(t, tree, held)
	}
}
