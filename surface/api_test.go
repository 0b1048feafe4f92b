package surface

import (
	"errors"
	"testing"

	"credence/api"
)

// DOC.md, 'Limits'.
func TestLimits(t *testing.T) {
	for what, c := range map[string]struct{ got, want int }{
		"MaxDeep":     {api.MaxDeep, 64},
		"MaxExponent": {api.MaxExponent, 1000},
		"MaxName":     {api.MaxName, 64},
		"MaxPower":    {api.MaxPower, 1024},
		"MaxBits":     {api.MaxBits, 262144},
		"MaxShift":    {api.MaxShift, 262144},
		"MaxDigits":   {api.MaxDigits, 4096},
		"MaxVars":     {api.MaxVars, 1024},
		"MaxCount":    {api.MaxCount, 2147483647},
		"MaxCells":    {api.MaxCells, 65536},
		"MaxBest":     {api.MaxBest, 1024},
		"MaxWorkers":  {api.MaxWorkers, 64},
		"MaxCommands": {api.MaxCommands, 4096},
	} {
		if c.got != c.want {
			t.Errorf("%s is %d, want %d", what, c.got, c.want)
		}
	}
}

// DOC.md, 'Errors'.
func TestErrors(t *testing.T) {
	for what, c := range map[string]struct {
		got  api.Errno
		want int
	}{
		"OK":         {api.OK, 0},
		"ErrArg":     {api.ErrArg, 1},
		"ErrNil":     {api.ErrNil, 2},
		"ErrRange":   {api.ErrRange, 3},
		"ErrMany":    {api.ErrMany, 4},
		"ErrDigits":  {api.ErrDigits, 10},
		"ErrZero":    {api.ErrZero, 11},
		"ErrBig":     {api.ErrBig, 12},
		"ErrFloat":   {api.ErrFloat, 13},
		"ErrByte":    {api.ErrByte, 20},
		"ErrText":    {api.ErrText, 21},
		"ErrNumber":  {api.ErrNumber, 22},
		"ErrSyntax":  {api.ErrSyntax, 30},
		"ErrDeep":    {api.ErrDeep, 31},
		"ErrTwice":   {api.ErrTwice, 40},
		"ErrUnknown": {api.ErrUnknown, 41},
		"ErrCycle":   {api.ErrCycle, 42},
		"ErrMissing": {api.ErrMissing, 43},
		"ErrExtra":   {api.ErrExtra, 44},
		"ErrEntry":   {api.ErrEntry, 45},
		"ErrRow":     {api.ErrRow, 46},
		"ErrQuery":   {api.ErrQuery, 50},
		"ErrOrder":   {api.ErrOrder, 51},
		"ErrNever":   {api.ErrNever, 52},
		"ErrShape":   {api.ErrShape, 60},
		"ErrScope":   {api.ErrScope, 61},
		"ErrCode":    {api.ErrCode, 70},
		"ErrData":    {api.ErrData, 71},
		"ErrFew":     {api.ErrFew, 72},
		"ErrStopped": {api.ErrStopped, 80},
		"ErrLine":    {api.ErrLine, 90},
	} {
		if int(c.got) != c.want {
			t.Errorf("%s is %d, want %d", what, int(c.got), c.want)
		}
	}
	if got := api.ErrSyntax.Error(); got != "error 30" {
		t.Errorf("ErrSyntax tells %q", got)
	}
}

func TestFault(t *testing.T) {
	var err error = &api.Fault{Code: api.ErrSyntax, Line: 3, Col: 7, Word: "x"}
	if got := err.Error(); got != "3:7: error 30: x" {
		t.Errorf("the fault tells %q", got)
	}
	if !errors.Is(err, api.ErrSyntax) || errors.Is(err, api.ErrByte) {
		t.Error("the fault's number is not found")
	}
	var fault *api.Fault
	if !errors.As(err, &fault) || fault.Line != 3 || fault.Col != 7 || fault.Word != "x" {
		t.Errorf("the fault is not found: %v", fault)
	}
}
