// Package given holds what is given to its word: see P5 in ../shared/DOC.md.
package given

import (
	"errors"
	"testing"

	"fingerpost/api"
	"fingerpost/plain"
)

// P5: the constants have the numbers that stand there.
func TestBounds(t *testing.T) {
	for name, x := range map[string][2]int{
		"MaxVars":   {api.MaxVars, 40},
		"MaxFuns":   {api.MaxFuns, 6},
		"MaxParams": {api.MaxParams, 3},
		"MaxStmts":  {api.MaxStmts, 80},
		"MaxName":   {api.MaxName, 8},
		"MaxText":   {api.MaxText, 4000},
		"MaxSet":    {api.MaxSet, 1000},
		"MaxSteps":  {api.MaxSteps, 2000},
		"MaxNums":   {api.MaxNums, 200},
		"MaxSeq":    {api.MaxSeq, 2147483648},
		"MaxPeers":  {api.MaxPeers, 6},
		"MaxBuffer": {api.MaxBuffer, 8},
		"Resend":    {api.Resend, 3},
		"MaxPlay":   {api.MaxPlay, 4000},
		"MaxLines":  {api.MaxLines, 80},
		"Workers":   {api.Workers, 16},
	} {
		if x[0] != x[1] {
			t.Errorf("%s is %d, want %d", name, x[0], x[1])
		}
	}
}

// P5: the errors have the texts that stand there, and plain's numbers, bare and with a place.
func TestErrors(t *testing.T) {
	for i, x := range []struct {
		err  error
		text string
	}{
		{api.ErrText, "fingerpost: text"},
		{api.ErrBound, "fingerpost: bound"},
		{api.ErrShape, "fingerpost: shape"},
		{api.ErrKind, "fingerpost: kind"},
		{api.ErrName, "fingerpost: name"},
		{api.ErrNone, "fingerpost: none"},
		{api.ErrExist, "fingerpost: exist"},
		{api.ErrFull, "fingerpost: full"},
		{api.ErrArgs, "fingerpost: args"},
		{api.ErrOrder, "fingerpost: order"},
		{api.ErrSum, "fingerpost: sum"},
	} {
		fault := &api.Fault{At: 7, Err: x.err}
		if x.err.Error() != x.text || fault.Error() != x.text || !errors.Is(fault, x.err) {
			t.Errorf("%q, %q, want %q", x.err, fault, x.text)
		}
		if code, at := plain.Code(x.err); code != i+1 || at != -1 {
			t.Errorf("Code(%v) = %d, %d", x.err, code, at)
		}
		if code, at := plain.Code(fault); code != i+1 || at != 7 {
			t.Errorf("Code(%v at 7) = %d, %d", x.err, code, at)
		}
	}
	if code, at := plain.Code(nil); code != 0 || at != -1 {
		t.Errorf("Code(nil) = %d, %d", code, at)
	}
	if code, at := plain.Code(errors.New("another")); code != -1 || at != -1 {
		t.Errorf("Code(another) = %d, %d", code, at)
	}
}
