package graph_test

import (
	"math/rand"
	"testing"

	"credence/api"
)

// 15.6: Chordal. 15.7: Pieces, which are looked at wherever two graphs are held
// against each other, too.

// TestExamplesOfShape: the chapter's row.
func TestExamplesOfShape(t *testing.T) {
	if g := ring(t); g.Chordal() || !alike(g.Pieces(), hung("0 1 2 3 | 4")) {
		t.Errorf("Chordal: %v, Pieces: %v", g.Chordal(), g.Pieces())
	}
}

func TestChordal(t *testing.T) {
	for text, want := range map[string]bool{
		"": true, "0-1": true, "0-1 1-2 0-2": true, "0-1 1-2 2-3 3-4 4-5": true, "0-1 0-2 0-3 0-4 0-5": true,
		"0-1 1-2 2-3 0-3": false, "0-1 1-2 2-3 0-3 0-2": true, "0-1 1-2 2-3 0-3 1-3": true, "0-2 2-1 1-3 3-0": false,
		"0-1 1-2 2-3 3-4 0-4": false, "0-1 1-2 2-3 3-4 0-4 0-2": false, "0-1 1-2 2-3 3-4 0-4 0-2 0-3": true,
		// The point in the middle is no short cut of the ring around it.
		"0-1 1-2 2-3 0-3 4-0 4-1 4-2 4-3": false, "0-1 1-2 2-3 0-3 0-2 4-0 4-1 4-2 4-3": true,
		// Two threes that hang together, and two that have an edge in common.
		"0-1 1-2 0-2 3-4 4-5 3-5 2-3": true, "0-1 1-2 0-2 3-4 4-5 3-5": true, "0-1 1-2 0-2 1-3 2-3": true,
		// A ring of six, then with one cut, with two, with three.
		"0-1 1-2 2-3 3-4 4-5 0-5": false, "0-1 1-2 2-3 3-4 4-5 0-5 0-3": false, "0-1 1-2 2-3 3-4 4-5 0-5 0-2 2-4": false, "0-1 1-2 2-3 3-4 4-5 0-5 0-2 2-4 0-4": true,
	} {
		if got := made(t, 6, edges(text)).Chordal(); got != want {
			t.Errorf("%s: %v", text, got)
		}
	}
	if !made(t, 0, nil).Chordal() || !made(t, 1, nil).Chordal() {
		t.Error("no edges, and not chordal")
	}
}

// checkChordal holds Chordal against the judge.
func checkChordal(t *testing.T, p plain) bool {
	t.Helper()
	want := isChordal(p)
	if got := graphOf(t, p).Chordal(); got != want {
		t.Fatalf("%d points, %v: %v", len(p), p.Edges(), got)
	}
	return want
}

// TestSmallChordal: all graphs of up to six points.
func TestSmallChordal(t *testing.T) {
	for p := range small(6) {
		checkChordal(t, p)
	}
}

// TestDrawnChordal: more points; each is asked again when a point was taken out
// of it, so that there are many that are chordal or nearly so.
func TestDrawnChordal(t *testing.T) {
	source := rand.New(rand.NewSource(156))
	chordal, others := 0, 0
	for i := range 1500 {
		p := drawn(source, 7+i%4, 15+i%30)
		for range p {
			if checkChordal(t, p) {
				chordal++
			} else {
				others++
			}
			p.Remove(source.Intn(len(p)))
		}
	}
	if chordal < 500 || others < 500 {
		t.Errorf("%d are chordal, %d are not", chordal, others)
	}
}

// TestLongRings: rings of all lengths, without a short cut, with all from one
// point, with all but one; and with others that hang on them.
func TestLongRings(t *testing.T) {
	for _, length := range []int{4, 5, 63, 64, 65, 128, 200, 511, 1020} {
		g := made(t, api.MaxVars, nil)
		for a := range length {
			g.Join(a, (a+1)%length)
		}
		for a := length; a < api.MaxVars; a++ {
			g.Join(a, a-1)
		}
		if g.Chordal() {
			t.Errorf("a ring of %d is chordal", length)
		}
		for a := 2; a < length-2; a++ {
			g.Join(0, a)
		}
		if g.Chordal() {
			t.Errorf("a ring of %d with all short cuts of a point but one is chordal", length)
		}
		g.Join(0, length-2)
		if !g.Chordal() {
			t.Errorf("a ring of %d with all short cuts of a point is not chordal", length)
		}
	}
}

// TestOneRing: all that are neighbours of all, but for one ring of four among
// them, wherever it lies.
func TestOneRing(t *testing.T) {
	source := rand.New(rand.NewSource(256))
	for range 20 {
		p := bare(100)
		for a := range p {
			for b := range a {
				p.Set(a, b, true)
			}
		}
		names := source.Perm(len(p))
		p.Set(names[0], names[2], false)
		if !graphOf(t, p).Chordal() {
			t.Errorf("%v without one edge: not chordal", names[:4])
		}
		p.Set(names[1], names[3], false)
		if graphOf(t, p).Chordal() {
			t.Errorf("%v without short cuts: chordal", names[:4])
		}
	}
}

func TestPieces(t *testing.T) {
	for text, want := range map[string]string{
		"": "0 | 1 | 2 | 3 | 4 | 5", "0-5": "0 5 | 1 | 2 | 3 | 4", "1-4 0-2": "0 2 | 1 4 | 3 | 5", "4-5 3-4 0-5": "0 3 4 5 | 1 | 2",
		"0-1 1-2 2-3 3-4 4-5": "0 1 2 3 4 5", "0-5 5-1 1-4 2-3": "0 1 4 5 | 2 3", "1-3 3-5 0-2 2-4": "0 2 4 | 1 3 5", "1-2 2-3 1-3": "0 | 1 2 3 | 4 | 5",
	} {
		if got := made(t, 6, edges(text)).Pieces(); !alike(got, hung(want)) {
			t.Errorf("%s: %v, want %s", text, got, want)
		}
	}
	if got := made(t, 0, nil).Pieces(); len(got) > 0 {
		t.Errorf("no points: %v", got)
	}
}

// TestDrawnPieces: about as many edges as points, so that there are large pieces
// and small ones.
func TestDrawnPieces(t *testing.T) {
	source := rand.New(rand.NewSource(157))
	for i := range 40 {
		p := bare(150)
		for range 20 + 4*i {
			a, b := source.Intn(len(p)), source.Intn(len(p))
			p.Set(a, b, a != b)
		}
		if got := graphOf(t, p).Pieces(); !alike(got, piecesOf(p)) {
			t.Fatalf("%v: %v", p.Edges(), got)
		}
	}
}

// TestLongPieces: two chains through all points, by turns.
func TestLongPieces(t *testing.T) {
	g := made(t, api.MaxVars, nil)
	var even, odd []int
	for a := range api.MaxVars {
		g.Join(a, a-2)
		if a%2 == 0 {
			even = append(even, a)
		} else {
			odd = append(odd, a)
		}
	}
	if got := g.Pieces(); !alike(got, [][]int{even, odd}) {
		t.Errorf("two chains: %d pieces", len(got))
	}
	g.Join(0, 1023)
	if got := g.Pieces(); !alike(got, [][]int{numbers(api.MaxVars)}) {
		t.Errorf("one chain: %d pieces", len(got))
	}
}
