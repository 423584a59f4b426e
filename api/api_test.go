package api_test

import (
	"testing"

	"hedgerow/api"
)

func TestErrorsHaveTheirNumbers(t *testing.T) {
	errors := []api.Errno{api.OK, api.ErrArg, api.ErrRect, api.ErrNone, api.ErrFull, api.ErrLog}
	for want, e := range errors {
		if int(e) != want {
			t.Errorf("the error at %d is %d", want, e)
		}
	}
}

func TestBoundsHaveTheirNumbers(t *testing.T) {
	got := [5]int{api.MinFan, api.MaxFan, api.MaxID, api.MaxThings, api.MaxCoord}
	if want := [5]int{4, 16, 4095, 400, 1000000000}; got != want {
		t.Errorf("the bounds are %v, want %v", got, want)
	}
}
