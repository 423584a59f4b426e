// Package hedgerow: rectangles in a tree of boxes: see DOC.md.
package hedgerow

import (
	"hedgerow/api"
	"hedgerow/boxes"
	"hedgerow/records"
)

// Tree keeps things, each with a rectangle.
type Tree struct {
	things *boxes.Tree
	log    []byte
}

// New makes a tree (P3).
func New(fan int) (*Tree, api.Errno) {
	if !isFan(fan) {
		return nil, api.ErrArg
	}
	t := &Tree{things: boxes.New(fan)}
	t.write(records.Record{Kind: records.Head, Fan: fan})
	return t, api.OK
}

// Put gives a thing a rectangle (P4).
func (t *Tree) Put(id int, r api.Rect) api.Errno {
	there := t.has(id)
	// P1 asks for the error that P4 names first: the order of these cases is that of P4.
	switch {
	case !isID(id):
		return api.ErrArg
	case !isRect(r):
		return api.ErrRect
	case !there && t.Len() >= api.MaxThings:
		return api.ErrFull
	}
	kind := records.Put
	if there {
		kind = records.Move
	}
	t.write(records.Record{Kind: kind, ID: id, Rect: r})
	t.things.Put(id, r)
	return api.OK
}

// Drop takes a thing out (P4).
func (t *Tree) Drop(id int) api.Errno {
	if !t.has(id) {
		return api.ErrNone
	}
	t.write(records.Record{Kind: records.Drop, ID: id})
	t.things.Drop(id)
	return api.OK
}

// Get tells a thing's rectangle (P4).
func (t *Tree) Get(id int) (api.Rect, api.Errno) {
	r, ok := t.things.Get(id)
	if !ok {
		return api.Rect{}, api.ErrNone
	}
	return r, api.OK
}

// Len tells how many things there are (P4).
func (t *Tree) Len() int { return t.things.Len() }

func (t *Tree) has(id int) bool {
	_, ok := t.things.Get(id)
	return ok
}

// Meets tells the things that have a place in common with a window (P5).
func (t *Tree) Meets(window api.Rect) ([]int, api.Errno) {
	if !isRect(window) {
		return nil, api.ErrRect
	}
	return t.things.Meeting(window), api.OK
}

// Within tells the things that lie in a window (P5).
func (t *Tree) Within(window api.Rect) ([]int, api.Errno) {
	if !isRect(window) {
		return nil, api.ErrRect
	}
	return t.things.Within(window), api.OK
}

// Pairs tells how many pairs of things have a place in common (P5).
func (t *Tree) Pairs() int { return t.things.Pairs() }

// Nearest tells the things that are nearest to a place (P6).
func (t *Tree) Nearest(x int, y int, most int) ([]api.Hit, api.Errno) {
	if !isPlace(x, y) || most < 0 {
		return nil, api.ErrArg
	}
	return t.things.Nearest(x, y, most), api.OK
}

// Height tells how many levels the tree has (P7).
func (t *Tree) Height() int { return t.things.Height() }
