package whole

import (
	"testing"

	"winepress/api"
)

// fails is an error of the run.
func fails() (fault error) {
	defer func() {
		fault = recover().(error)
	}()
	var none []int
	none[len(none)]++
	return nil
}

// left is with what a call panics.
func left(call func()) (why any) {
	defer func() {
		why = recover()
	}()
	call()
	return nil
}

func TestP33_2_LeavesByItsError(t *testing.T) {
	for e := api.ErrTruncated; e <= api.ErrTrailing; e++ {
		if why := left(func() { need(false, e) }); why != any(e) || wrong(why) != e {
			t.Errorf("left by %v, not %d", why, e)
		}
		if why := left(func() { need(true, e) }); why != nil {
			t.Errorf("left by %v", why)
		}
	}
}

func TestP33_2_ErrorsOfTheRunGoOn(t *testing.T) {
	fault := fails()
	if why := left(func() { wrong(fault) }); why != any(fault) {
		t.Errorf("what goes on is %v", why)
	}
	// Nothing but an error of a stream is told as one.
	if why := left(func() { wrong("no error") }); why == nil {
		t.Error("a text is told as an error of a stream")
	}
}
