package hedgerow_test

import (
	"bytes"
	"encoding/binary"
	"slices"
	"testing"

	"hedgerow/api"
	"hedgerow/hedgerow"
)

// P9

// someCalls makes a tree and its ledger, with records of all kinds.
func someCalls(t *testing.T, fan int, calls int, ids int) (*hedgerow.Tree, *ledger) {
	t.Helper()
	d := dice(fan * 31)
	tree, l := newTree(t, fan), newLedger(fan)
	for range calls {
		oneWritten(t, tree, l, &d, ids)
	}
	return tree, l
}

func TestReplayOfAWholeLog(t *testing.T) {
	for fan := 4; fan <= 16; fan++ {
		for _, calls := range []int{0, 1, 20, 900} {
			tree, l := someCalls(t, fan, calls, 600)
			again := wantReplay(t, tree.Log(), len(l.log))
			wantTree(t, again, fan, l.held)
			if h, k := again.Height(), tree.Height(); h != k {
				t.Fatalf("by fan %d the height is %d, and replayed %d", fan, k, h)
			}
		}
	}
}

func TestAReplayedTreeGoesOn(t *testing.T) {
	for fan := 4; fan <= 16; fan++ {
		tree, l := someCalls(t, fan, 300, 200)
		again := wantReplay(t, l.log, len(l.log))
		fork := &ledger{held: l.held.copy(), log: l.log}
		var d, same dice = 5, 5
		for range 300 {
			oneWritten(t, tree, l, &d, 200)
			oneWritten(t, again, fork, &same, 200)
			if h, k := again.Height(), tree.Height(); h != k {
				t.Fatalf("by fan %d the height is %d, and replayed %d", fan, k, h)
			}
		}
		wantLog(t, tree, l.log)
		wantLog(t, again, l.log)
		wantTree(t, again, fan, l.held)
		wantReplay(t, again.Log(), len(l.log))
	}
}

func TestReplayOfALogCutOffAnywhere(t *testing.T) {
	for _, fan := range []int{4, 9, 16} {
		_, l := someCalls(t, fan, 60, 20)
		for size := range len(l.log) + 1 {
			count := l.cut(size)
			if count == 0 {
				wantNoLog(t, l.log[:size:size])
				wantNoLog(t, l.log[:size])
				continue
			}
			tree := wantReplay(t, l.log[:size:size], l.ends[count-1])
			wantReplay(t, l.log[:size], l.ends[count-1])
			held := l.past[count-1]
			wantLen(t, tree, len(held))
			wantMeets(t, tree, everywhere, held.ids()...)
			for _, id := range held.ids() {
				wantThing(t, tree, id, held[id])
			}
		}
	}
}

func TestReplayOfALogWithAByteTurned(t *testing.T) {
	_, l := someCalls(t, 7, 25, 8)
	for at := range l.log {
		for turn := 1; turn < 256; turn++ {
			log := slices.Clone(l.log)
			log[at] ^= byte(turn)
			count := l.cut(at)
			if count == 0 {
				wantNoLog(t, log)
				continue
			}
			tree := wantReplay(t, log, l.ends[count-1])
			wantLen(t, tree, len(l.past[count-1]))
		}
	}
}

func TestReplayOfBytesBehindALog(t *testing.T) {
	_, l := someCalls(t, 6, 25, 8)
	size := len(l.log)
	for _, more := range [][]byte{{0}, {72}, {80}, {77}, {68}, {255}, make([]byte, 4), make([]byte, 23), make([]byte, 1000), bytes.Repeat([]byte{80}, 99), bytes.Repeat([]byte{68}, 7), l.log} {
		wantTree(t, wantReplay(t, slices.Concat(l.log, more), size), 6, l.held)
	}
}

func TestReplayByEveryFan(t *testing.T) {
	for fan := range 256 {
		log := logOf(headOf(fan), putOf('P', 3, rect(0, 0, 1, 1)))
		if fan < 4 || fan > 16 {
			wantNoLog(t, log)
			wantNoLog(t, log[:6])
			continue
		}
		wantTree(t, wantReplay(t, log, 29), fan, model{3: rect(0, 0, 1, 1)})
		wantTree(t, wantReplay(t, log[:6], 6), fan, model{})
	}
}

func TestLogsThatBeginOtherwise(t *testing.T) {
	wantNoLog(t, nil)
	wantNoLog(t, []byte{})
	put := putOf('P', 3, rect(0, 0, 1, 1))
	for _, first := range [][]byte{put, putOf('M', 3, rect(0, 0, 1, 1)), dropOf(3), {'h', 4}, {0, 4}, {72}, {72, 4, 0}, {72, 4, 0, 0}, {}} {
		wantNoLog(t, logOf(first))
		wantNoLog(t, logOf(first, headOf(4), put))
	}
	for kind := range 256 {
		if kind != 72 {
			wantNoLog(t, logOf([]byte{byte(kind), 4}, put))
		}
	}
	// A right record that lies behind another one, and so has another sum.
	wantNoLog(t, logOf(headOf(4), headOf(4))[6:])
	wantNoLog(t, logOf(headOf(4), put)[6:])
}

// A sum without the four bytes ahead, or with its bytes the other way round, is not right.
func TestFirstRecordsWithOtherSums(t *testing.T) {
	sum := binary.LittleEndian.Uint32(sealed(nil, headOf(4)))
	wantReplay(t, binary.LittleEndian.AppendUint32(headOf(4), sum), 6)
	wantNoLog(t, binary.BigEndian.AppendUint32(headOf(4), sum))
	bare := uint32(2166136261)
	for _, b := range headOf(4) {
		bare = (bare ^ uint32(b)) * 16777619
	}
	wantNoLog(t, binary.LittleEndian.AppendUint32(headOf(4), bare))
	wantNoLog(t, binary.LittleEndian.AppendUint32(headOf(4), 0))
}

// refusedRecords have right sums, but can't be behind a log in which 1 is there and 2 is not.
func refusedRecords() [][]byte {
	fine := rect(0, 0, 1, 1)
	list := [][]byte{
		headOf(4), headOf(5), headOf(0), {}, {0}, {72}, {80}, {77}, {68}, {68, 1}, {68, 1, 0, 0}, append(putOf('P', 2, fine), 0), putOf('P', 2, fine)[:18],
		putOf('P', 1, fine), putOf('P', 1, rect(5, 5, 6, 6)), putOf('M', 2, fine), putOf('M', 257, fine), putOf('M', 4096, fine), putOf('M', 65535, fine),
		dropOf(2), dropOf(0), dropOf(257), dropOf(4095), dropOf(4096), dropOf(4097), dropOf(65535),
		putOf('P', 4096, fine), putOf('P', 4097, fine), putOf('P', 32768, fine), putOf('P', 65535, fine),
		putOf('p', 2, fine), putOf('m', 1, fine), {'d', 1, 0}, {'h', 4}, {'X', 4},
	}
	for _, r := range []api.Rect{
		rect(1, 0, 0, 0), rect(0, 1, 0, 0), rect(0, 0, -1, 0), rect(0, 0, 0, -1),
		rect(-maxCoord-1, 0, 0, 0), rect(0, -maxCoord-1, 0, 0), rect(0, 0, maxCoord+1, 0), rect(0, 0, 0, maxCoord+1),
		rect(-1<<31, 0, 0, 0), rect(0, 0, 1<<31-1, 0), rect(maxCoord+1, 0, maxCoord+1, 0), rect(0, -1<<31, 0, -1<<31),
	} {
		list = append(list, putOf('P', 2, r), putOf('M', 1, r))
	}
	return list
}

func TestRecordsThatAreRightButCannotBe(t *testing.T) {
	fine := rect(0, 0, 1, 1)
	start := logOf(headOf(4), putOf('P', 1, fine))
	for _, r := range refusedRecords() {
		log := behind(start, r)
		for _, next := range [][]byte{putOf('P', 3, fine), putOf('M', 1, fine), dropOf(1)} {
			wantTree(t, wantReplay(t, log, len(start)), 4, model{1: fine})
			wantReplay(t, behind(log, next), len(start))
			// A record that would be right, were it not for the one ahead.
			wantReplay(t, slices.Concat(log, behind(start, next)[len(start):]), len(start))
			wantReplay(t, behind(start, next), len(start)+len(next)+4)
		}
	}
}

func TestARefusedRecordChangesNothing(t *testing.T) {
	for _, r := range refusedRecords() {
		l := newLedger(4)
		l.put(1, rect(0, 0, 1, 1))
		tree := wantReplay(t, behind(l.log, r), len(l.log))
		putBoth(t, tree, l, 2, rect(3, 3, 4, 4))
		putBoth(t, tree, l, 1, rect(3, 3, 4, 4))
		dropBoth(t, tree, l, 1)
		wantLog(t, tree, l.log)
		wantTree(t, tree, 4, l.held)
	}
}

func TestReplayOfAThingTooMany(t *testing.T) {
	l := newLedger(8)
	for i := range maxThings {
		l.put(i, rect(i, i, i+1, i+1))
	}
	fine := rect(0, 0, 1, 1)
	full := len(l.log)
	tree := wantReplay(t, behind(l.log, putOf('P', maxThings, fine)), full)
	wantTree(t, tree, 8, l.held)
	wantPut(t, tree, maxThings, fine, api.ErrFull)
	wantReplay(t, behind(behind(l.log, putOf('P', maxThings, fine)), dropOf(0)), full)
	l.put(5, fine)
	l.drop(6)
	l.put(maxThings, fine)
	wantTree(t, wantReplay(t, l.log, full+23+7+23), 8, l.held)
	wantReplay(t, behind(l.log, putOf('P', 6, fine)), len(l.log))
}

func TestRecordsAtAnotherPlace(t *testing.T) {
	a, b, c := putOf('P', 1, rect(0, 0, 1, 1)), putOf('P', 2, rect(2, 2, 3, 3)), putOf('P', 3, rect(4, 4, 5, 5))
	log := logOf(headOf(4), a, b, c)
	first, second, third := log[6:29], log[29:52], log[52:]
	wantReplay(t, log, 75)
	wantReplay(t, slices.Concat(log[:6], second, first, third), 6)
	wantReplay(t, slices.Concat(log[:6], second, third), 6)
	wantReplay(t, slices.Concat(log[:29], third), 29)
	wantReplay(t, slices.Concat(log[:29], third, second), 29)
	wantReplay(t, slices.Concat(log[:52], log[:6], third), 52)
	// The same record behind another one, of another log.
	wantReplay(t, slices.Concat(logOf(headOf(5)), first), 6)
	// A drop doubled has a right sum neither.
	drops := logOf(headOf(4), a, b, dropOf(1))
	wantReplay(t, slices.Concat(drops, drops[52:]), 59)
}

// whatP9Says reads a log in the plainest way: it tells how many bytes are done, and what is held then.
func whatP9Says(log []byte) (size int, held model) {
	sizes := map[byte]int{72: 2, 80: 19, 77: 19, 68: 3}
	if len(log) < 6 || log[0] != 72 || log[1] < 4 || log[1] > 16 || !bytes.Equal(sealed(nil, log[:2]), log[2:6]) {
		return 0, nil
	}
	size, held = 6, model{}
	for size < len(log) {
		end := size + sizes[log[size]]
		if end == size || end+4 > len(log) || !bytes.Equal(sealed(log[:size], log[size:end]), log[end:end+4]) {
			break
		}
		l := &ledger{held: held, log: log[:size]}
		if !l.follow(log[size:end]) || !bytes.Equal(l.log, log[:end+4]) {
			break
		}
		size = end + 4
	}
	return size, held
}

// follow does to the ledger what a record says, if it would be written just so.
func (l *ledger) follow(record []byte) bool {
	if !slices.Contains([]byte{80, 77, 68}, record[0]) {
		return false
	}
	id := int(binary.LittleEndian.Uint16(record[1:]))
	_, there := l.held[id]
	if record[0] == 68 {
		return l.drop(id) == api.OK
	}
	var n [4]int
	for i := range n {
		n[i] = int(int32(binary.LittleEndian.Uint32(record[3+4*i:])))
	}
	return there == (record[0] == 77) && l.put(id, rect(n[0], n[1], n[2], n[3])) == api.OK
}

func wantWhatP9Says(t *testing.T, log []byte) {
	t.Helper()
	size, held := whatP9Says(log)
	if held == nil {
		wantNoLog(t, log)
		return
	}
	tree := wantReplay(t, log, size)
	wantLen(t, tree, len(held))
	wantMeets(t, tree, everywhere, held.ids()...)
	for _, id := range held.ids() {
		wantThing(t, tree, id, held[id])
	}
}

// roughRecord is mostly one that can be behind the ledger's log, and may be anything.
func (d *dice) roughRecord(l *ledger) []byte {
	id := d.below(6)
	_, there := l.held[id]
	switch {
	case d.below(40) == 0:
		return []byte{"HXhpmd"[d.below(6)], byte(d.below(20))}
	case there == (d.below(40) == 0):
		return putOf('P', id, d.rect())
	case d.below(2) == 0:
		return dropOf(id)
	}
	return putOf('M', id, d.rect())
}

func (d *dice) roughLog() []byte {
	l := newLedger(3 + d.below(15))
	for range d.below(30) {
		r := d.roughRecord(l)
		if !l.follow(r) {
			l.write(r)
		}
	}
	log := l.log
	if d.below(4) == 0 {
		log[d.below(len(log))] ^= byte(d.below(256))
	}
	return log[:len(log)-d.below(2)*d.below(len(log))]
}

func TestReplayOfRoughLogs(t *testing.T) {
	var d dice = 3
	refused, long := 0, 0
	for range 20000 {
		log := d.roughLog()
		wantWhatP9Says(t, log)
		if size, held := whatP9Says(log); held == nil {
			refused++
		} else if size > 100 {
			long++
		}
	}
	// Else the dice would have shown too little.
	if refused < 1000 || long < 1000 {
		t.Fatalf("%d rough logs were refused, %d went far", refused, long)
	}
}

func FuzzReplay(f *testing.F) {
	var d dice = 4
	for range 50 {
		f.Add(d.roughLog())
	}
	f.Fuzz(func(t *testing.T, log []byte) {
		ahead := slices.Clone(log)
		wantWhatP9Says(t, log)
		if !bytes.Equal(log, ahead) {
			t.Fatalf("Replay(% x) has written into it", ahead)
		}
	})
}
