package samples

import (
	"iter"
	"slices"
	"strconv"
	"strings"

	"credence/api"
	"credence/frac"
	"credence/radix"
)

// RainText is the file of the document's example.
const RainText = `network rain { property "a small one"; }
variable rain { type discrete [2] { no, yes }; }
variable grass { type discrete [2] { dry, wet }; }
probability (rain) { table 0.8, 1/5; }
probability (grass | rain) {
  (no) 9/10, 1/10;
  default (1 - 0.9), 0.9;
}
`

// Rain is the network of the document's example.
func Rain() api.Net {
	return api.Net{
		Name:    "rain",
		Names:   []string{"rain", "grass"},
		Values:  [][]string{{"no", "yes"}, {"dry", "wet"}},
		Parents: Hung("| 0"),
		Tables:  [][]api.Rat{Fractions("4/5 1/5"), Fractions("9/10 1/10 1/10 9/10")},
	}
}

// Fractions are fractions as the chapters' examples write them. A word that is
// none is a slip of the test, which panics.
func Fractions(text string) []api.Rat {
	var out []api.Rat
	for word := range strings.FieldsSeq(text) {
		a, code := frac.Parse(word)
		if code != api.OK {
			panic(word + " is no fraction")
		}
		out = append(out, a)
	}
	return out
}

// WordingOfFractions is a list of fractions as the chapters' examples write it.
func WordingOfFractions(list []api.Rat) string {
	words := make([]string, len(list))
	for i, a := range list {
		words[i] = frac.Text(a)
	}
	return strings.Join(words, " ")
}

// Even is a row of so many numbers, all the same.
func Even(size int) []api.Rat {
	row := make([]api.Rat, size)
	for i := range row {
		row[i] = Ratio(1, size)
	}
	return row
}

// DrawnRow makes rows without any order; many of their numbers are 0.
func DrawnRow(source Source) func(size int) []api.Rat {
	return func(size int) []api.Rat {
		parts := make([]int, size)
		whole := 1 + source.Intn(6)
		for range whole {
			parts[source.Intn(size)]++
		}
		row := make([]api.Rat, size)
		for i, part := range parts {
			row[i] = NewPair(part, whole).Rat()
		}
		return row
	}
}

// NetOf is a network of variables x0, x1 and so on over some parents, with so
// many values v0, v1 and so on each; row makes each row of its tables.
func NetOf(parents [][]int, sizes []int, row func(size int) []api.Rat) api.Net {
	n := api.Net{Name: "net"}
	for v, list := range parents {
		n.Names = append(n.Names, "x"+strconv.Itoa(v))
		var values []string
		for value := range sizes[v] {
			values = append(values, "v"+strconv.Itoa(value))
		}
		n.Values = append(n.Values, values)
		n.Parents = append(n.Parents, slices.Clone(list))
		rows := 1
		for _, parent := range list {
			rows *= sizes[parent]
		}
		var table []api.Rat
		for range rows {
			table = append(table, row(sizes[v])...)
		}
		n.Tables = append(n.Tables, table)
	}
	return n
}

// DrawnNet is a network without any order over some parents; variables have
// from one value to most.
func DrawnNet(source Source, parents [][]int, most int) api.Net {
	sizes := make([]int, len(parents))
	for v := range sizes {
		sizes[v] = 1 + source.Intn(most)
	}
	return NetOf(parents, sizes, DrawnRow(source))
}

// EntryAt is what a variable's table says where all variables have some values.
func EntryAt(n api.Net, v int, values []int) api.Rat {
	at := 0
	for _, parent := range n.Parents[v] {
		at = at*len(n.Values[parent]) + values[parent]
	}
	return n.Tables[v][at*len(n.Values[v])+values[v]]
}

// ChanceAt is the probability of an assignment, table by table.
func ChanceAt(n api.Net, values []int) api.Rat {
	chance := Ratio(1, 1)
	for v := range n.Names {
		chance = frac.Mul(chance, EntryAt(n, v, values))
	}
	return chance
}

// Assignments goes over all assignments of a network that may be.
func Assignments(n api.Net) iter.Seq[[]int] {
	sizes := make([]int, len(n.Values))
	for v, values := range n.Values {
		sizes[v] = len(values)
	}
	return func(yield func([]int) bool) {
		for _, values := range radix.All(sizes) {
			if !yield(values) {
				return
			}
		}
	}
}
