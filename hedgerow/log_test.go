package hedgerow_test

import (
	"slices"
	"testing"

	"hedgerow/api"
)

// P8

func TestTheLogOfTheExample(t *testing.T) {
	tree := newTree(t, 4)
	want := []byte{0x48, 0x04, 0xd9, 0xee, 0x29, 0x2c}
	wantLog(t, tree, want)
	wantDrop(t, tree, 1, api.ErrNone)
	wantLog(t, tree, want)
}

func TestALogWorkedOutByHand(t *testing.T) {
	tree := newTree(t, 4)
	wantPut(t, tree, 1, rect(0, 0, 10, 10), api.OK)
	wantPut(t, tree, 4095, rect(-1000000000, -1, 1000000000, 256), api.OK)
	wantPut(t, tree, 1, rect(-5, -6, 7, 8), api.OK)
	wantDrop(t, tree, 4095, api.OK)
	wantPut(t, tree, 4095, rect(1, 2, 3, 4), api.OK)
	wantDrop(t, tree, 1, api.OK)
	wantLog(t, tree, []byte{
		0x48, 0x04, 0xd9, 0xee, 0x29, 0x2c,
		0x50, 0x01, 0x00, 0x00, 0x00, 0x00, 0x00, 0x00, 0x00, 0x00, 0x00, 0x0a, 0x00, 0x00, 0x00, 0x0a, 0x00, 0x00, 0x00, 0x80, 0xe0, 0xb4, 0x65,
		0x50, 0xff, 0x0f, 0x00, 0x36, 0x65, 0xc4, 0xff, 0xff, 0xff, 0xff, 0x00, 0xca, 0x9a, 0x3b, 0x00, 0x01, 0x00, 0x00, 0x99, 0x42, 0x4b, 0x0b,
		0x4d, 0x01, 0x00, 0xfb, 0xff, 0xff, 0xff, 0xfa, 0xff, 0xff, 0xff, 0x07, 0x00, 0x00, 0x00, 0x08, 0x00, 0x00, 0x00, 0x68, 0x20, 0xac, 0xd8,
		0x44, 0xff, 0x0f, 0xc5, 0x92, 0x7e, 0x81,
		0x50, 0xff, 0x0f, 0x01, 0x00, 0x00, 0x00, 0x02, 0x00, 0x00, 0x00, 0x03, 0x00, 0x00, 0x00, 0x04, 0x00, 0x00, 0x00, 0xdb, 0xe4, 0x4f, 0x82,
		0x44, 0x01, 0x00, 0xe8, 0xed, 0x4d, 0xcc,
	})
}

func TestTheFanInTheLog(t *testing.T) {
	for fan := 4; fan <= 16; fan++ {
		wantLog(t, newTree(t, fan), logOf(headOf(fan)))
	}
}

func TestNumbersInTheLog(t *testing.T) {
	ids := []int{0, 1, 127, 128, 255, 256, 257, 511, 512, 4094, maxID}
	coords := []int{-maxCoord, -maxCoord + 1, -16777217, -16777216, -65537, -65536, -257, -256, -255, -128, -2, -1,
		0, 1, 127, 128, 255, 256, 65535, 65536, 16777215, 16777216, maxCoord - 1, maxCoord}
	tree, l := newTree(t, 16), newLedger(16)
	for i, a := range coords {
		for _, b := range coords[i:] {
			id := ids[(i+b&7)%len(ids)]
			putBoth(t, tree, l, id, rect(a, -maxCoord, b, maxCoord))
			putBoth(t, tree, l, id, rect(-maxCoord, a, maxCoord, b))
			dropBoth(t, tree, l, id)
		}
	}
	wantLog(t, tree, l.log)
	if size := 6 + len(coords)*(len(coords)+1)/2*(23+23+7); len(l.log) != size {
		t.Fatalf("the log has %d bytes, want %d", len(l.log), size)
	}
}

func TestTheKindOfAPut(t *testing.T) {
	tree := newTree(t, 5)
	a, b := rect(0, 0, 1, 1), rect(2, 2, 3, 3)
	wantPut(t, tree, 7, a, api.OK)
	wantPut(t, tree, 7, b, api.OK)
	wantPut(t, tree, 7, b, api.OK)
	wantPut(t, tree, 8, b, api.OK)
	wantDrop(t, tree, 7, api.OK)
	wantPut(t, tree, 7, b, api.OK)
	wantPut(t, tree, 8, a, api.OK)
	wantLog(t, tree, logOf(headOf(5),
		putOf('P', 7, a), putOf('M', 7, b), putOf('M', 7, b), putOf('P', 8, b), dropOf(7), putOf('P', 7, b), putOf('M', 8, a)))
}

func TestErrorsAreNotWritten(t *testing.T) {
	for _, count := range []int{0, 1, maxThings - 1, maxThings} {
		tree, l := newTree(t, 4), newLedger(4)
		for i := range count {
			putBoth(t, tree, l, 2*i, rect(i, i, i+1, i+2))
		}
		want := slices.Clone(l.log)
		for _, id := range []int{-1, maxID + 1, 1 << 16, 1 << 32, smallest, greatest} {
			wantPut(t, tree, id, rect(0, 0, 1, 1), api.ErrArg)
			wantDrop(t, tree, id, api.ErrNone)
		}
		for _, id := range []int{0, 1, maxID} {
			wantPut(t, tree, id, rect(1, 0, 0, 0), api.ErrRect)
			wantPut(t, tree, id, rect(0, 0, 0, maxCoord+1), api.ErrRect)
		}
		wantDrop(t, tree, 1, api.ErrNone)
		if count == maxThings {
			wantPut(t, tree, 1, rect(0, 0, 1, 1), api.ErrFull)
		}
		wantLog(t, tree, want)
	}
}

func TestAFullTreesLog(t *testing.T) {
	tree, l := newTree(t, 4), newLedger(4)
	for i := range maxThings {
		putBoth(t, tree, l, i, rect(i, i, i+1, i+2))
	}
	for _, id := range []int{maxThings, 0, maxThings, maxThings - 1} {
		putBoth(t, tree, l, id, rect(-3, -3, 3, 3))
	}
	dropBoth(t, tree, l, 0)
	putBoth(t, tree, l, maxThings, rect(0, 0, 0, 0))
	putBoth(t, tree, l, 0, rect(0, 0, 0, 0))
	wantLog(t, tree, l.log)
	if size := 6 + 403*23 + 7; len(l.log) != size {
		t.Fatalf("the log has %d bytes, want %d", len(l.log), size)
	}
}

func TestAskingIsNotWritten(t *testing.T) {
	tree, l := newTree(t, 4), newLedger(4)
	for i := range 30 {
		putBoth(t, tree, l, i, rect(i, -i, i+5, i+5))
	}
	wantTree(t, tree, 4, l.held)
	wantNoWindow(t, tree, rect(1, 0, 0, 0))
	wantNoNearest(t, tree, 0, 0, -1)
	wantReplay(t, tree.Log(), len(l.log))
	wantLog(t, tree, l.log)
}

func TestTheLogOfManyCalls(t *testing.T) {
	for fan := 4; fan <= 16; fan++ {
		d := dice(fan)
		tree, l := newTree(t, fan), newLedger(fan)
		for i := range 600 {
			oneWritten(t, tree, l, &d, 100)
			if i%50 == 0 {
				wantLog(t, tree, l.log)
			}
		}
		wantLog(t, tree, l.log)
		wantTree(t, tree, fan, l.held)
	}
}
