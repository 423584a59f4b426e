package hedgerow_test

import (
	"bytes"
	"slices"
	"testing"

	"hedgerow/hedgerow"
)

// P1 and P2, at the lists of bytes

func TestReplayAtAnyFewBytes(t *testing.T) {
	wantNoLog(t, nil)
	wantNoLog(t, []byte{})
	for a := range 256 {
		wantNoLog(t, []byte{byte(a)})
		for b := range 256 {
			wantNoLog(t, []byte{byte(a), byte(b)})
		}
	}
	for _, kind := range []byte{0, 72, 80, 77, 68, 255} {
		for _, fill := range []byte{0, 1, 4, 72, 80, 127, 128, 255} {
			for size := range 64 {
				more := append([]byte{kind}, bytes.Repeat([]byte{fill}, size)...)
				wantNoLog(t, more)
				wantReplay(t, slices.Concat(logOf(headOf(4)), more), 6)
			}
		}
	}
}

func TestReplayAtAnyBytes(t *testing.T) {
	var d dice = 8
	start := logOf(headOf(16), putOf('P', 3, rect(0, 0, 1, 1)))
	for range 20000 {
		more := make([]byte, d.below(100))
		for i := range more {
			more[i] = byte(d.below(256))
		}
		wantNoLog(t, more)
		wantReplay(t, slices.Concat(start, more), len(start))
	}
}

func TestReplayOfALongLog(t *testing.T) {
	var log []byte
	start := logOf(headOf(4))
	log = append(log, start...)
	for i := range 20000 {
		for _, r := range [][]byte{putOf('P', i%maxID, rect(i, -i, i, i)), putOf('M', i%maxID, rect(-i, 0, i, 0)), dropOf(i % maxID)} {
			log = append(log, r...)
			log = append(log, sealed(log[:len(log)-len(r)], r)...)
		}
	}
	wantTree(t, wantReplay(t, log, len(log)), 4, model{})
	wantReplay(t, bytes.Repeat(start, 100000), 6)
	wantNoLog(t, make([]byte, 1000000))
}

func TestErrorsChangeNoOtherTree(t *testing.T) {
	tree, l := someCalls(t, 4, 60, 20)
	wantNoLog(t, nil)
	wantNoLog(t, l.log[:5])
	wantNoLog(t, logOf(headOf(3)))
	wantLog(t, tree, l.log)
	wantTree(t, tree, 4, l.held)
}

// withRoom tells the list again, with spare room behind it that is written full.
func withRoom(list []byte, room int) []byte {
	return slices.Concat(list, bytes.Repeat([]byte{201}, room))[:len(list)]
}

func TestLogsAreTheCallers(t *testing.T) {
	for _, calls := range []int{0, 1, 2, 3, 7, 50, 300} {
		tree, l := someCalls(t, 4, calls, 40)
		again := wantReplay(t, l.log, len(l.log))
		wantApart(t, [][]byte{tree.Log(), tree.Log(), again.Log(), tree.Log(), again.Log()}, 77)
		wantLog(t, tree, l.log)
		wantLog(t, again, l.log)
		wantTree(t, tree, 4, l.held)
		// The next record hangs on the sum of the one ahead.
		putBoth(t, tree, l, maxID, rect(1, 2, 3, 4))
		wantPut(t, again, maxID, rect(1, 2, 3, 4), 0)
		wantLog(t, tree, l.log)
		wantLog(t, again, l.log)
	}
}

func TestLogsStayAsTheyWereTold(t *testing.T) {
	tree, l := newTree(t, 4), newLedger(4)
	var d dice = 2
	for range 200 {
		told := tree.Log()
		told = told[:cap(told)]
		want := slices.Clone(told)
		for range 1 + d.below(3) {
			oneWritten(t, tree, l, &d, 30)
		}
		tree.Log()
		if !bytes.Equal(told, want) {
			t.Fatalf("a log that was told has changed: % x, it was % x", told, want)
		}
	}
	wantLog(t, tree, l.log)
}

func TestReplayWritesNothing(t *testing.T) {
	_, l := someCalls(t, 4, 40, 10)
	for size := range len(l.log) + 1 {
		for _, room := range []int{0, 1, 4, 23, 5000} {
			log := withRoom(l.log[:size], room)
			want := slices.Clone(log[:cap(log)])
			if tree, _, _ := hedgerow.Replay(log); tree != nil {
				tree.Put(9, rect(0, 0, 1, 1))
				tree.Drop(9)
				tree.Put(9, rect(0, 0, 1, 1))
			}
			if !bytes.Equal(log[:cap(log)], want) {
				t.Fatalf("the %d bytes handed in, or the %d behind them, were written into", size, room)
			}
		}
	}
}

func TestReplayKeepsNothing(t *testing.T) {
	for _, room := range []int{0, 30, 5000} {
		_, l := someCalls(t, 4, 100, 30)
		log := withRoom(l.log, room)
		tree := wantReplay(t, log, len(log))
		other := wantReplay(t, log, len(log))
		scribble(log, 13)
		wantLog(t, tree, l.log)
		wantTree(t, tree, 4, l.held)
		wantPut(t, other, maxID, rect(5, 5, 5, 5), 0)
		putBoth(t, tree, l, 0, rect(1, 2, 3, 4))
		dropBoth(t, tree, l, 0)
		scribble(log, 14)
		wantLog(t, tree, l.log)
		wantTree(t, tree, 4, l.held)
	}
}

func TestTwoReplaysShareNothing(t *testing.T) {
	_, l := someCalls(t, 5, 100, 30)
	fork := &ledger{fan: 5, held: l.held.copy(), log: slices.Clone(l.log)}
	log := withRoom(l.log, 5000)
	a, b := wantReplay(t, log, len(log)), wantReplay(t, log, len(log))
	var forA, forB dice = 1, 2
	for range 100 {
		oneWritten(t, a, l, &forA, 30)
		oneWritten(t, b, fork, &forB, 30)
	}
	wantLog(t, a, l.log)
	wantLog(t, b, fork.log)
	wantTree(t, a, 5, l.held)
	wantTree(t, b, 5, fork.held)
}

func TestTreesOfNewAndReplayUsedInTurns(t *testing.T) {
	var d dice = 6
	var trees []*hedgerow.Tree
	var ledgers []*ledger
	for fan := 4; fan <= 16; fan++ {
		trees = append(trees, newTree(t, fan), newTree(t, fan))
		ledgers = append(ledgers, newLedger(fan), newLedger(fan))
	}
	for range 12000 {
		i := d.below(len(trees))
		oneWritten(t, trees[i], ledgers[i], &d, 300)
		// Each second tree is made anew of its log, now and then.
		if i%2 == 1 && d.below(20) == 0 {
			trees[i] = wantReplay(t, trees[i].Log(), len(ledgers[i].log))
		}
	}
	for i, l := range ledgers {
		wantLog(t, trees[i], l.log)
		wantTree(t, trees[i], l.fan, l.held)
	}
}
