package hedgerow_test

import (
	"bytes"
	"encoding/binary"
	"hash/fnv"
	"slices"
	"testing"

	"hedgerow/api"
	"hedgerow/hedgerow"
)

// What the document says of the log, in the library's words: its sum is the library's fnv 1a.

func headOf(fan int) []byte { return []byte{72, byte(fan)} }

func putOf(kind byte, id int, r api.Rect) []byte {
	b := binary.LittleEndian.AppendUint16([]byte{kind}, uint16(id))
	for _, n := range []int{r.X0, r.Y0, r.X1, r.Y1} {
		b = binary.LittleEndian.AppendUint32(b, uint32(n))
	}
	return b
}

func dropOf(id int) []byte { return binary.LittleEndian.AppendUint16([]byte{68}, uint16(id)) }

// sealed tells the sum of a record with these bytes, behind a log.
func sealed(log []byte, record []byte) []byte {
	ahead := make([]byte, 4)
	if len(log) > 0 {
		ahead = log[len(log)-4:]
	}
	h := fnv.New32a()
	h.Write(ahead)
	h.Write(record)
	return binary.LittleEndian.AppendUint32(nil, h.Sum32())
}

// behind writes a record with its sum behind a log.
func behind(log []byte, record []byte) []byte {
	return slices.Concat(log, record, sealed(log, record))
}

func logOf(records ...[]byte) []byte {
	var log []byte
	for _, r := range records {
		log = behind(log, r)
	}
	return log
}

// ledger is a model that keeps the log, and what was held behind each record.
type ledger struct {
	fan  int
	held model
	log  []byte
	ends []int
	past []model
}

func newLedger(fan int) *ledger {
	l := &ledger{fan: fan, held: model{}}
	l.write(headOf(fan))
	return l
}

func (l *ledger) write(record []byte) {
	l.log = behind(l.log, record)
	l.ends = append(l.ends, len(l.log))
	l.past = append(l.past, l.held.copy())
}

func (m model) copy() model {
	c := model{}
	for id, r := range m {
		c[id] = r
	}
	return c
}

func (l *ledger) put(id int, r api.Rect) api.Errno {
	kind := byte(80)
	if _, ok := l.held[id]; ok {
		kind = 77
	}
	e := l.held.put(id, r)
	if e == api.OK {
		l.write(putOf(kind, id, r))
	}
	return e
}

func (l *ledger) drop(id int) api.Errno {
	e := l.held.drop(id)
	if e == api.OK {
		l.write(dropOf(id))
	}
	return e
}

// cut tells how many records are whole in the first bytes of the log.
func (l *ledger) cut(size int) int {
	count := 0
	for count < len(l.ends) && l.ends[count] <= size {
		count++
	}
	return count
}

func putBoth(t *testing.T, tree *hedgerow.Tree, l *ledger, id int, r api.Rect) {
	t.Helper()
	wantPut(t, tree, id, r, l.put(id, r))
}

func dropBoth(t *testing.T, tree *hedgerow.Tree, l *ledger, id int) {
	t.Helper()
	wantDrop(t, tree, id, l.drop(id))
}

// oneWritten does a call of any kind, some of them wrong.
func oneWritten(t *testing.T, tree *hedgerow.Tree, l *ledger, d *dice, ids int) {
	t.Helper()
	id := d.below(ids+2) - 1
	if d.below(3) == 0 {
		dropBoth(t, tree, l, id)
	} else {
		putBoth(t, tree, l, id, d.rect())
	}
}

func wantLog(t *testing.T, tree *hedgerow.Tree, want []byte) {
	t.Helper()
	if got := tree.Log(); !bytes.Equal(got, want) {
		t.Fatalf("Log() = % x, want % x", got, want)
	}
}

func wantReplay(t *testing.T, log []byte, size int) *hedgerow.Tree {
	t.Helper()
	tree, n, e := hedgerow.Replay(log)
	if tree == nil || n != size || e != api.OK {
		t.Fatalf("Replay(% x) = %v, %d, %d, want a tree, %d, 0", log, tree != nil, n, e, size)
	}
	wantLog(t, tree, log[:size])
	return tree
}

func wantNoLog(t *testing.T, log []byte) {
	t.Helper()
	if tree, n, e := hedgerow.Replay(log); tree != nil || n != 0 || e != api.ErrLog {
		t.Fatalf("Replay(% x) = %v, %d, %d, want nil, 0 and ErrLog", log, tree != nil, n, e)
	}
}

// wantTree holds a tree against a model: what it has, and what is found in it.
func wantTree(t *testing.T, tree *hedgerow.Tree, fan int, held model) {
	t.Helper()
	wantAll(t, tree, held)
	wantPairs(t, tree, held.pairs())
	wantHeight(t, tree, fan, len(held))
	wantFound(t, tree, held, everywhere)
	wantFound(t, tree, held, rect(-300, -200, 400, 500))
}
