// Package surface holds what the program shows against the document: package
// api's limits and errors, and the calls that the chapters list.
package surface

import (
	"iter"
	"testing"

	"credence/api"
	"credence/best"
	"credence/cause"
	"credence/code"
	"credence/crew"
	"credence/dag"
	"credence/data"
	"credence/decimal"
	"credence/elim"
	"credence/engine"
	"credence/expr"
	"credence/factor"
	"credence/frac"
	"credence/graph"
	"credence/joint"
	"credence/learn"
	"credence/lex"
	"credence/model"
	"credence/nat"
	"credence/near"
	"credence/order"
	"credence/parse"
	"credence/play"
	"credence/prune"
	"credence/query"
	"credence/radix"
	"credence/ring"
	"credence/sense"
	"credence/sep"
	"credence/set"
	"credence/show"
	"credence/tree"
	"credence/whole"
)

// Short names for the types that stand in the chapters' lists.
type (
	natural  = api.Nat
	integer  = api.Int
	fraction = api.Rat
	table    = api.Box[api.Rat]
	errno    = api.Errno
)

// TestCalls is here for the tests' sake: what it checks is that this file
// builds, since each call is held against its signature below.
func TestCalls(t *testing.T) {}

// Layers 1 to 5: numbers.
var (
	_ func(natural) natural                          = nat.Norm
	_ func(uint64) natural                           = nat.Of
	_ func(natural) (uint64, bool)                   = nat.Uint
	_ func(a, b natural) int                         = nat.Cmp
	_ func(a, b natural) natural                     = nat.Add
	_ func(a, b natural) (natural, bool)             = nat.Sub
	_ func(a, b natural) natural                     = nat.Mul
	_ func(a, b natural) (natural, natural, errno)   = nat.DivMod
	_ func(a, b natural) natural                     = nat.Gcd
	_ func(natural, int) (natural, errno)            = nat.Pow
	_ func(natural, int) (natural, errno)            = nat.Shift
	_ func(natural) int                              = nat.Bits
	_ func(natural) natural                          = nat.Root
	_ func(natural) string                           = nat.Text
	_ func(string) (natural, errno)                  = nat.Parse
	_ func(integer) integer                          = whole.Norm
	_ func(int) integer                              = whole.Of
	_ func(integer) (int, bool)                      = whole.Int
	_ func(a, b integer) int                         = whole.Cmp
	_ func(integer) int                              = whole.Sign
	_ func(integer) integer                          = whole.Neg
	_ func(a, b integer) integer                     = whole.Add
	_ func(a, b integer) integer                     = whole.Sub
	_ func(a, b integer) integer                     = whole.Mul
	_ func(a, b integer) (integer, integer, errno)   = whole.Floor
	_ func(a, b integer) (integer, integer, errno)   = whole.Quo
	_ func(a, b integer) (natural, integer, integer) = whole.Bezout
	_ func(integer) string                           = whole.Text
	_ func(string) (integer, errno)                  = whole.Parse
	_ func(num, den integer) (fraction, errno)       = frac.New
	_ func(num, den int) (fraction, errno)           = frac.Of
	_ func(fraction) (fraction, errno)               = frac.Norm
	_ func(a, b fraction) int                        = frac.Cmp
	_ func(fraction) int                             = frac.Sign
	_ func(fraction) fraction                        = frac.Neg
	_ func(a, b fraction) fraction                   = frac.Add
	_ func(a, b fraction) fraction                   = frac.Sub
	_ func(a, b fraction) fraction                   = frac.Mul
	_ func(a, b fraction) (fraction, errno)          = frac.Div
	_ func(...fraction) fraction                     = frac.Sum
	_ func(fraction) integer                         = frac.Floor
	_ func(fraction) iter.Seq[integer]               = frac.Terms
	_ func(a, b fraction) (fraction, errno)          = frac.Simplest
	_ func(fraction) string                          = frac.Text
	_ func(string) (fraction, errno)                 = frac.Parse
	_ func(string) (fraction, errno)                 = decimal.Parse
	_ func(fraction, int) (string, errno)            = decimal.Round
	_ func(fraction) (string, bool)                  = decimal.Exact
	_ func(fraction, int) (string, string, errno)    = decimal.Period
	_ func(float32) (fraction, errno)                = near.Of[float32]
	_ func(float64) (fraction, errno)                = near.Of[float64]
	_ func(fraction) float64                         = near.Nearest
	_ func(fraction) float32                         = near.Single
	_ func(fraction) (float64, float64)              = near.Around
	_ func(a, b float64) int                         = near.Order[float64]
)

// Layers 6 to 9: files.
var (
	_ func(string) ([]api.Token, error)        = lex.Scan
	_ func(string) iter.Seq2[api.Token, error] = lex.Each
	_ func(string) bool                        = lex.Name
	_ func(string) string                      = lex.Quote
	_ func(string) (api.File, error)           = parse.File
	_ func(string) ([][]api.Term, error)       = parse.Numbers
	_ func(api.File) (string, errno)           = show.File
	_ func([]api.Term) (string, errno)         = show.Terms
	_ func(api.Net) (string, errno)            = show.Net
	_ func([]api.Term) (fraction, errno)       = expr.Eval
	_ func([]api.Term) (int, errno)            = expr.Deep
	_ func([]api.Term, int) (api.Line, errno)  = expr.Line
)

// Layers 10 to 13: tables.
var (
	_ func([]int) (int, errno)                                = radix.Count[int]
	_ func([]int32) (int, errno)                              = radix.Count[int32]
	_ func([]uint16) (int, errno)                             = radix.Count[uint16]
	_ func(sizes, digits []int) (int, errno)                  = radix.At[int]
	_ func([]int, int) ([]int, errno)                         = radix.Digits[int]
	_ func([]int) iter.Seq2[int, []int]                       = radix.All[int]
	_ func(...string) set.Set[string]                         = set.Of[string]
	_ func(set.Set[int]) []int                                = set.Set[int].List
	_ func(set.Set[int]) int                                  = set.Set[int].Len
	_ func(set.Set[int], int) bool                            = set.Set[int].Has
	_ func(set.Set[int], int) set.Set[int]                    = set.Set[int].With
	_ func(set.Set[int], int) set.Set[int]                    = set.Set[int].Without
	_ func(s, o set.Set[int]) set.Set[int]                    = set.Set[int].Join
	_ func(s, o set.Set[int]) set.Set[int]                    = set.Set[int].Meet
	_ func(s, o set.Set[int]) set.Set[int]                    = set.Set[int].Minus
	_ func(s, o set.Set[int]) bool                            = set.Set[int].Within
	_ func(s, o set.Set[int]) bool                            = set.Set[int].Same
	_ ring.Ring[fraction]                                     = ring.Rats{}
	_ ring.Ring[fraction]                                     = ring.Most{}
	_ ring.Ring[bool]                                         = ring.Bools{}
	_ ring.Ring[int]                                          = ring.Ints{}
	_ ring.Ring[float64]                                      = ring.Floats{}
	_ ring.Ring[ring.Slope]                                   = ring.Slopes{}
	_ ring.Slope                                              = ring.Slope{At: fraction{}, By: fraction{}}
	_ func(ring.Ring[int], ...int) int                        = ring.Sum[int]
	_ func(ring.Ring[int], ...int) int                        = ring.Product[int]
	_ func(ring.Ring[int], int, int) (int, errno)             = ring.Power[int]
	_ func(table) errno                                       = factor.Check[fraction]
	_ func(fraction) table                                    = factor.One[fraction]
	_ func(r ring.Ring[fraction], a, b table) (table, errno)  = factor.Times[fraction]
	_ func(ring.Ring[fraction], table, int) (table, errno)    = factor.Out[fraction]
	_ func(table, api.Fix) (table, errno)                     = factor.Given[fraction]
	_ func(table, []int) (fraction, errno)                    = factor.Cell[fraction]
	_ func(table, func(fraction) bool) (api.Box[bool], errno) = factor.Map[fraction, bool]
	_ func(r ring.Ring[fraction], a, b table) bool            = factor.Same[fraction]
)

// Layers 14 to 18: graphs.
var (
	_ func([][]int) errno                                                    = dag.Check
	_ func([][]int) []int                                                    = dag.Cycle
	_ func([][]int) ([]int, errno)                                           = dag.Order
	_ func([][]int, ...int) ([]int, errno)                                   = dag.Above
	_ func([][]int, ...int) ([]int, errno)                                   = dag.Below
	_ func([][]int) ([][]int, errno)                                         = dag.Children
	_ func([][]int) ([]api.Edge, errno)                                      = dag.Edges
	_ func(int) (*graph.Graph, errno)                                        = graph.New
	_ func(*graph.Graph) int                                                 = (*graph.Graph).Len
	_ func(g *graph.Graph, a, b int) bool                                    = (*graph.Graph).Join
	_ func(g *graph.Graph, a, b int) bool                                    = (*graph.Graph).Has
	_ func(*graph.Graph, int) []int                                          = (*graph.Graph).Near
	_ func(*graph.Graph) iter.Seq[api.Edge]                                  = (*graph.Graph).Edges
	_ func([][]int) (*graph.Graph, errno)                                    = graph.Moral
	_ func(*graph.Graph, []int) *graph.Graph                                 = (*graph.Graph).Among
	_ func(*graph.Graph, int) int                                            = (*graph.Graph).Fill
	_ func(*graph.Graph, int) ([]int, []api.Edge)                            = (*graph.Graph).Remove
	_ func(*graph.Graph) bool                                                = (*graph.Graph).Chordal
	_ func(*graph.Graph) [][]int                                             = (*graph.Graph).Pieces
	_ func(parents [][]int, a, b, given []int) (bool, errno)                 = sep.Apart
	_ func(parents [][]int, a, given []int) ([]int, errno)                   = sep.Reach
	_ func(parents [][]int, a, b int, given []int) ([]int, errno)            = sep.Trail
	_ func([][]int, int) ([]int, errno)                                      = sep.Blanket
	_ func(p [][]int, asked, given []int, barren, apart bool) ([]int, errno) = prune.Kept
	_ func(parents [][]int, asked, given []int) ([]int, errno)               = prune.Barren
	_ func(*graph.Graph, []int) ([]int, errno)                               = order.Fill
	_ func(*graph.Graph, []int) ([]int, errno)                               = order.Degree
	_ func(order, points []int) errno                                        = order.Check
	_ func(*graph.Graph, []int) ([][]int, errno)                             = order.Cliques
	_ func(*graph.Graph, []int) (int, errno)                                 = order.Width
)

// Layers 19 to 24: networks and questions.
var (
	_ func(api.File) (api.Net, errno)                                                  = model.Elaborate
	_ func(string) (api.Net, error)                                                    = model.Load
	_ func(api.Net) errno                                                              = model.Check
	_ func(api.Net) []int                                                              = model.Sizes
	_ func(api.Net, []int) (fraction, errno)                                           = model.Chance
	_ func(api.Net) ([]table, errno)                                                   = model.Boxes
	_ func(a, b api.Net) bool                                                          = model.Same
	_ func(api.Net) iter.Seq2[[]int, fraction]                                         = joint.All
	_ func(api.Net, []api.Fix) (fraction, errno)                                       = joint.Sum
	_ func(n api.Net, asked, given []api.Fix) (fraction, errno)                        = joint.Ask
	_ func(api.Net, []int, []api.Fix) (table, errno)                                   = joint.Table
	_ func(ring.Ring[int], []api.Box[int], []int) (api.Box[int], api.Trace, errno)     = elim.Run[int]
	_ func(api.Net, []int, []api.Fix, api.Plan) (table, api.Trace, errno)              = elim.Table
	_ func(n api.Net, asked, given []api.Fix, p api.Plan) (fraction, api.Trace, errno) = elim.Ask
	_ tree.Tree                                                                        = tree.Tree{Cliques: [][]int{}, Parent: []int{}}
	_ func(api.Net, []int) (tree.Tree, errno)                                          = tree.Build
	_ func(api.Net, tree.Tree, []api.Fix) ([]table, errno)                             = tree.Marginals
	_ func(api.Net, tree.Tree, []api.Fix) ([]table, errno)                             = tree.Beliefs
	_ func(string) ([]api.Query, error)                                                = query.Parse
	_ func([]api.Query) (string, errno)                                                = query.Text
	_ func(api.Net, api.Query) errno                                                   = query.Check
	_ func(file, script string) (string, int)                                          = engine.Run
	_ func(api.Net, api.Query) (api.Answer, api.Trace)                                 = engine.Answer
	_ func(errno) int                                                                  = engine.Class
)

// Layers 25 to 32: what is done with networks.
var (
	_ func(api.Net, []api.Fix) (api.Ranked, errno)                                 = best.One
	_ func(api.Net, []api.Fix, int) ([]api.Ranked, errno)                          = best.Some
	_ func(api.Net, []api.Fix) iter.Seq[api.Ranked]                                = best.All
	_ func(api.Net, []int) (api.Span, errno)                                       = code.Span
	_ func(api.Net, fraction) ([]int, errno)                                       = code.At
	_ func(api.Net, []int) (string, errno)                                         = code.Encode
	_ func(api.Net, string) ([]int, int, errno)                                    = code.Decode
	_ func(api.Net, string) (api.Rows, error)                                      = data.Parse
	_ func(api.Net, api.Rows) (string, errno)                                      = data.Text
	_ func(api.Net, api.Rows, int) ([]int, errno)                                  = data.Count
	_ func(api.Net, api.Rows) (fraction, errno)                                    = data.Chance
	_ func(api.Net, api.Rows, fraction) (api.Net, errno)                           = learn.Fit
	_ func(api.Net, api.Rows) (api.Net, errno)                                     = learn.Step
	_ func(api.Net, api.Rows) (fraction, errno)                                    = learn.Score
	_ func(n api.Net, v, row, value int, asked, given []api.Fix) (api.Line, errno) = sense.Line
	_ func(api.Line, fraction) (fraction, errno)                                   = sense.At
	_ func(n api.Net, v, row, value int, x fraction) (api.Net, errno)              = sense.Turn
	_ func(n api.Net, v, row, value int, given []api.Fix) (fraction, errno)        = sense.Slope
	_ func(api.Net, []api.Fix) (api.Net, errno)                                    = cause.Do
	_ func(n api.Net, asked, given, set []api.Fix) (fraction, errno)               = cause.Ask
	_ func(n api.Net, from, to int, by []int) (bool, errno)                        = cause.Back
	_ func(n api.Net, asked, set api.Fix, by []int) (fraction, errno)              = cause.Adjust
	_ func(file, script string, workers int) (string, int)                         = crew.Run
	_ func([]int, int, func(int) string) ([]string, errno)                         = crew.Map[int, string]
	_ func([]fraction, int) (fraction, errno)                                      = crew.Sum
	_ func(api.Net, []int, []api.Fix, []api.Plan) (table, errno)                   = crew.Race
	_ func(string) string                                                          = play.Play
)
