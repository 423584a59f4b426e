// Package records writes the records of a log, and reads them.
package records

import "hedgerow/api"

// The kinds of records.
const (
	Head byte = 'H' // a new tree
	Put  byte = 'P' // a thing that was not there is put
	Move byte = 'M' // a thing that was there is put
	Drop byte = 'D' // a thing is dropped
)

// Record is what one record says. A field that does not belong to its kind is 0.
type Record struct {
	Kind byte
	Fan  int
	ID   int
	Rect api.Rect
}

// How many bytes a number takes.
const (
	kindSize  = 1
	fanSize   = 1
	idSize    = 2
	coordSize = 4
	sumSize   = 4
)

// bodySize tells how many bytes stand between a kind and its sum, and whether there is such a kind.
func bodySize(kind byte) (int, bool) {
	switch kind {
	case Head:
		return fanSize, true
	case Put, Move:
		return idSize + 4*coordSize, true
	case Drop:
		return idSize, true
	}
	return 0, false
}

// Append writes a record behind a log that is empty or ends with a record. It looks at no bounds: who calls has done so.
func Append(log []byte, r Record) []byte {
	at := len(log)
	log = append(log, r.Kind)
	switch r.Kind {
	case Head:
		log = appendNumber(log, r.Fan, fanSize)
	case Put, Move:
		log = appendNumber(log, r.ID, idSize)
		for _, n := range [...]int{r.Rect.X0, r.Rect.Y0, r.Rect.X1, r.Rect.Y1} {
			log = appendNumber(log, n, coordSize)
		}
	case Drop:
		log = appendNumber(log, r.ID, idSize)
	}
	return appendNumber(log, int(seal(log, at)), sumSize)
}

// Read tells the record that begins at a place of a log, and whether it is whole and right. What lies ahead of that place must be so.
func Read(log []byte, at int) (Record, bool) {
	if at >= len(log) {
		return Record{}, false
	}
	body, ok := bodySize(log[at])
	end := at + kindSize + body
	if !ok || end+sumSize > len(log) {
		return Record{}, false
	}
	if seal(log[:end], at) != number(log[end:end+sumSize]) {
		return Record{}, false
	}
	return parse(log[at], log[at+kindSize:end]), true
}

func parse(kind byte, body []byte) Record {
	r := Record{Kind: kind}
	switch kind {
	case Head:
		r.Fan = int(number(body))
	case Put, Move:
		r.ID = int(number(body[:idSize]))
		r.Rect = rect(body[idSize:])
	case Drop:
		r.ID = int(number(body))
	}
	return r
}

func rect(body []byte) api.Rect {
	coord := func(i int) int {
		at := i * coordSize
		// By way of int32 a number comes out below 0, as it went in.
		return int(int32(number(body[at : at+coordSize])))
	}
	return api.Rect{X0: coord(0), Y0: coord(1), X1: coord(2), Y1: coord(3)}
}
