package graph_test

import (
	"math/rand"
	"slices"
	"testing"

	"credence/api"
	"credence/samples"
)

// 15.4: Among.

// TestExamplesOfAmong: the chapter's row.
func TestExamplesOfAmong(t *testing.T) {
	g := ring(t)
	h := g.Among(list("0 1 3 7 0"))
	if h.Len() != 5 || !slices.Equal(told(h), edges("0-1 0-3")) {
		t.Errorf("Among: %d points, %v", h.Len(), told(h))
	}
	if !slices.Equal(told(g), edges("0-1 0-3 1-2 2-3")) {
		t.Errorf("the graph itself became %v", told(g))
	}
}

// TestSmallAmong: all graphs of up to four points, all short lists, with some in
// them that are no points, or stand there twice.
func TestSmallAmong(t *testing.T) {
	for p := range small(4) {
		g := graphOf(t, p)
		for points := range samples.ListsOf([]int{-1, 0, 1, 2, 3, 4}, 3) {
			checkSame(t, g.Among(points), among(p, points))
		}
		checkSame(t, g.Among(list("3 2 1 0")), p)
		checkSame(t, g, p)
	}
}

// TestStrangersAmong: what is no point says nothing.
func TestStrangersAmong(t *testing.T) {
	p := unfolded(5, 1023)
	g := graphOf(t, p)
	for _, a := range strangers(5) {
		checkSame(t, g.Among([]int{a}), bare(5))
		checkSame(t, g.Among([]int{a, 4, a, 0, a}), among(p, list("0 4")))
	}
	checkSame(t, made(t, 0, nil).Among(strangers(0)), bare(0))
	for _, none := range [][]int{nil, {}} {
		checkSame(t, g.Among(none), bare(5))
	}
}

// TestDrawnAmong: more points.
func TestDrawnAmong(t *testing.T) {
	source := rand.New(rand.NewSource(154))
	for i := range 60 {
		p := drawn(source, 1+source.Intn(130), 1+i)
		points := make([]int, source.Intn(2*len(p)))
		for j := range points {
			points[j] = source.Intn(len(p)+4) - 2
		}
		checkSame(t, graphOf(t, p).Among(points), among(p, points))
	}
}

// TestShareNothing: what is done to a graph is not seen in the one that it was
// made of, or that was made of it.
func TestShareNothing(t *testing.T) {
	all := numbers(6)
	for bits := range 1 << 15 {
		if bits%7 > 0 {
			continue
		}
		p := unfolded(6, bits)
		g := graphOf(t, p)
		h := g.Among(all)
		g.Remove(bits % 6)
		checkSame(t, h, p)
		h.Join(0, 5)
		h.Remove(1)
		q := p.Clone()
		q.Remove(bits % 6)
		checkSame(t, g, q)
	}
}

// TestGreatestAmong: a long list, and all points.
func TestGreatestAmong(t *testing.T) {
	g := made(t, api.MaxVars, edges("0-1 0-1023 511-512 1022-1023"))
	long := slices.Repeat(list("1023 -5 0 512 1024 511"), 50000)
	if got := told(g.Among(long)); !slices.Equal(got, edges("0-1023 511-512")) {
		t.Errorf("a long list: %v", got)
	}
	if got := told(g.Among(numbers(api.MaxVars))); !slices.Equal(got, told(g)) {
		t.Errorf("all points: %v", got)
	}
}
