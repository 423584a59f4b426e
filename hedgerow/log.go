package hedgerow

import (
	"bytes"

	"hedgerow/api"
	"hedgerow/records"
)

// Log tells all that was put and dropped (P8).
func (t *Tree) Log() []byte { return bytes.Clone(t.log) }

func (t *Tree) write(r records.Record) { t.log = records.Append(t.log, r) }

// Replay makes a tree of a log (P9).
func Replay(log []byte) (*Tree, int, api.Errno) {
	head, ok := records.Read(log, 0)
	if !ok || head.Kind != records.Head {
		return nil, 0, api.ErrLog
	}
	t, e := New(head.Fan)
	if e != api.OK {
		return nil, 0, api.ErrLog
	}
	for {
		// What is redone is written again, so the tree's log is as long as what was read.
		r, ok := records.Read(log, len(t.log))
		if !ok || !t.redo(r) {
			return t, len(t.log), api.OK
		}
	}
}

// redo does what a record says, and tells whether it did: not if the call would tell an error, or would be written otherwise.
func (t *Tree) redo(r records.Record) bool {
	there := t.has(r.ID)
	justSo := !there
	switch r.Kind {
	case records.Move:
		// It is put like any other, but it must have been there.
		justSo = there
		fallthrough
	case records.Put:
		return justSo && t.Put(r.ID, r.Rect) == api.OK
	case records.Drop:
		return t.Drop(r.ID) == api.OK
	}
	return false
}
