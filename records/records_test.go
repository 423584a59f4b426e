package records

import (
	"bytes"
	"slices"
	"testing"

	"hedgerow/api"
)

func TestTheSumOfBytes(t *testing.T) {
	for text, want := range map[string]uint32{
		"":       2166136261,
		"\x00":   0x050c5d1f,
		"\xff":   0x7a0b824e,
		"a":      0xe40c292c,
		"foobar": 0xbf9cf968,
	} {
		if got := sum(sumStart, []byte(text)); got != want {
			t.Errorf("the sum of %q is %#x, want %#x", text, got, want)
		}
	}
}

func TestASumGoesOn(t *testing.T) {
	list := []byte("what stands in a log")
	for i := range list {
		if got, want := sum(sum(sumStart, list[:i]), list[i:]), sum(sumStart, list); got != want {
			t.Fatalf("cut at %d the sum is %#x, want %#x", i, got, want)
		}
	}
}

var examples = []Record{
	{Kind: 72, Fan: 4},
	{Kind: 80, ID: 1, Rect: api.Rect{X0: 0, Y0: 0, X1: 10, Y1: 10}},
	{Kind: 80, ID: 4095, Rect: api.Rect{X0: -1000000000, Y0: -1, X1: 1000000000, Y1: 256}},
	{Kind: 77, ID: 1, Rect: api.Rect{X0: -5, Y0: -6, X1: 7, Y1: 8}},
	{Kind: 68, ID: 4095},
}

var exampleLog = []byte{
	0x48, 0x04, 0xd9, 0xee, 0x29, 0x2c,
	0x50, 0x01, 0x00, 0x00, 0x00, 0x00, 0x00, 0x00, 0x00, 0x00, 0x00, 0x0a, 0x00, 0x00, 0x00, 0x0a, 0x00, 0x00, 0x00, 0x80, 0xe0, 0xb4, 0x65,
	0x50, 0xff, 0x0f, 0x00, 0x36, 0x65, 0xc4, 0xff, 0xff, 0xff, 0xff, 0x00, 0xca, 0x9a, 0x3b, 0x00, 0x01, 0x00, 0x00, 0x99, 0x42, 0x4b, 0x0b,
	0x4d, 0x01, 0x00, 0xfb, 0xff, 0xff, 0xff, 0xfa, 0xff, 0xff, 0xff, 0x07, 0x00, 0x00, 0x00, 0x08, 0x00, 0x00, 0x00, 0x68, 0x20, 0xac, 0xd8,
	0x44, 0xff, 0x0f, 0xc5, 0x92, 0x7e, 0x81,
}

var exampleEnds = []int{6, 29, 52, 75, 82}

func TestRecordsAreWritten(t *testing.T) {
	var log []byte
	for i, r := range examples {
		log = Append(log, r)
		if want := exampleLog[:exampleEnds[i]]; !bytes.Equal(log, want) {
			t.Fatalf("behind %v the log is % x, want % x", r, log, want)
		}
	}
}

func TestRecordsAreRead(t *testing.T) {
	at := 0
	for i, want := range examples {
		if got, ok := Read(exampleLog, at); got != want || !ok {
			t.Fatalf("at %d: %v, %v, want %v", at, got, ok, want)
		}
		at = exampleEnds[i]
	}
	wantNone(t, exampleLog, at)
}

func wantNone(t *testing.T, log []byte, at int) {
	t.Helper()
	if got, ok := Read(log, at); got != (Record{}) || ok {
		t.Fatalf("at %d of % x: %v, %v, want none", at, log, got, ok)
	}
}

func TestRecordsThatAreCutOff(t *testing.T) {
	at := 0
	for _, end := range exampleEnds {
		for size := at; size < end; size++ {
			wantNone(t, exampleLog[:size], at)
			wantNone(t, exampleLog[:size:size], at)
		}
		at = end
	}
	wantNone(t, nil, 0)
}

// A record is not right if a byte of it is turned, or one of the sum ahead.
func TestRecordsWithAByteTurned(t *testing.T) {
	at := 0
	for _, end := range exampleEnds {
		for i := max(0, at-4); i < end; i++ {
			log := slices.Clone(exampleLog)
			log[i] ^= 0x10
			wantNone(t, log, at)
		}
		at = end
	}
}

func TestThereAreFourKinds(t *testing.T) {
	for kind := range 256 {
		log := Append(nil, Record{Kind: byte(kind)})
		if slices.Contains([]int{72, 80, 77, 68}, kind) {
			if r, ok := Read(log, 0); r.Kind != byte(kind) || !ok {
				t.Fatalf("kind %d: %v, %v", kind, r, ok)
			}
			continue
		}
		wantNone(t, log, 0)
	}
}

func TestEveryCoordinateComesBack(t *testing.T) {
	for shift := range 31 {
		for _, n := range []int{1 << shift, 1<<shift - 1, -1 << shift, -1<<shift - 1} {
			want := Record{Kind: Put, ID: n & 0xffff, Rect: api.Rect{X0: n, Y0: -n, X1: n / 2, Y1: ^n}}
			log := Append(exampleLog[:6:6], want)
			if got, ok := Read(log, 6); got != want || !ok {
				t.Fatalf("%v came back as %v, %v", want, got, ok)
			}
		}
	}
}
