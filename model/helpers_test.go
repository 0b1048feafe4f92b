package model_test

import (
	"errors"
	"slices"
	"strings"
	"testing"

	"credence/api"
	"credence/model"
	"credence/parse"
	"credence/samples"
)

// Short names for what samples makes.
var (
	rain      = samples.Rain
	list      = samples.List
	hung      = samples.Hung
	fractions = samples.Fractions
	wording   = samples.WordingOfFractions
	ratio     = samples.Ratio
	terms     = samples.Terms
	drawnNet  = samples.DrawnNet
	netOf     = samples.NetOf
	even      = samples.Even
)

// instead is the document's example with one thing in another's place.
func instead(old, new string) string {
	if strings.Count(samples.RainText, old) != 1 {
		panic(old + " does not stand there just once")
	}
	return strings.Replace(samples.RainText, old, new, 1)
}

// fileOf is what a file's text says.
func fileOf(t *testing.T, text string) api.File {
	t.Helper()
	f, err := parse.File(text)
	if err != nil {
		t.Fatalf("File(%.300q): %v", text, err)
	}
	return f
}

// isZero is whether there is nothing in a network.
func isZero(n api.Net) bool {
	return n.Name == "" && len(n.Names)+len(n.Values)+len(n.Parents)+len(n.Tables) == 0
}

// identical is whether two networks are the same, number by number, each number
// normal.
func identical(a, b api.Net) bool {
	return a.Name == b.Name && slices.Equal(a.Names, b.Names) &&
		slices.EqualFunc(a.Values, b.Values, slices.Equal) && samples.SameLists(a.Parents, b.Parents) &&
		slices.EqualFunc(a.Tables, b.Tables, func(x, y []api.Rat) bool { return slices.EqualFunc(x, y, samples.SameLimbs) })
}

// checkNet holds a file's network against what it should be.
func checkNet(t *testing.T, f api.File, want api.Net) {
	t.Helper()
	if got, e := model.Elaborate(f); e != api.OK || !identical(got, want) {
		t.Fatalf("Elaborate(%v): %v, %v, want %v", f, got, e, want)
	}
}

// checkWrong holds what is wrong with a file against what should be told.
func checkWrong(t *testing.T, f api.File, want api.Errno) {
	t.Helper()
	if got, e := model.Elaborate(f); e != want || !isZero(got) {
		t.Fatalf("Elaborate(%.1000v): %v, %v, want %v", f, got, e, want)
	}
}

// load is Load, which must go well.
func load(t *testing.T, text string) api.Net {
	t.Helper()
	n, err := model.Load(text)
	if err != nil {
		t.Fatalf("Load(%.300q): %v", text, err)
	}
	return n
}

// checkFault holds Load's fault against what it should be.
func checkFault(t *testing.T, text string, want api.Fault) {
	t.Helper()
	n, err := model.Load(text)
	var fault *api.Fault
	if !errors.As(err, &fault) || *fault != want || !errors.Is(err, want.Code) || !isZero(n) {
		t.Fatalf("Load(%.300q): %v, %v, want %v", text, n, err, want)
	}
}
