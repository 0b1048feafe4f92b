package parse_test

import (
	"reflect"
	"runtime"
	"strings"
	"testing"

	"credence/api"
	"credence/nat"
	"credence/parse"
)

// R3, R5: answers are new memory, and keep nothing of what was handed in.

// piece is the memory of a list with its spare room.
type piece struct{ from, to uintptr }

// pieces are those of all lists in an answer.
func pieces(v reflect.Value) []piece {
	var list []piece
	switch v.Kind() {
	case reflect.Slice:
		if v.Cap() > 0 {
			from := v.Pointer()
			list = append(list, piece{from, from + uintptr(v.Cap())*v.Type().Elem().Size()})
		}
		for i := range v.Len() {
			list = append(list, pieces(v.Index(i))...)
		}
	case reflect.Struct:
		for i := range v.NumField() {
			list = append(list, pieces(v.Field(i))...)
		}
	}
	return list
}

// apart is whether no two pieces share memory.
func apart(list []piece) bool {
	for i, a := range list {
		for _, b := range list[:i] {
			if a.from < b.to && b.from < a.to {
				return false
			}
		}
	}
	return true
}

// TestPieces: the look at memory sees what is shared, and lets by what is not.
func TestPieces(t *testing.T) {
	a := make([]string, 2, 4)
	for _, c := range []struct {
		value any
		want  bool
	}{
		{[][]string{a, make([]string, 1)}, true},
		{[][]string{a, a}, false},
		{[][]string{a[:2:2], a[2:4]}, true},
		{[][]string{a, a[3:4]}, false},
		{api.File{Properties: a, Vars: []api.VarDecl{{Values: a[1:]}}}, false},
		{[]api.Term{{Number: api.Rat{Den: nat.Of(1)}}, {}}, true},
	} {
		if got := apart(pieces(reflect.ValueOf(c.value))); got != c.want {
			t.Errorf("%v: %t", c.value, got)
		}
	}
}

// TestListsApart: no two lists of answers share memory, of one or of two.
func TestListsApart(t *testing.T) {
	for _, text := range files() {
		first, _ := parse.File(text)
		second, _ := parse.File(text)
		if !apart(append(pieces(reflect.ValueOf(first)), pieces(reflect.ValueOf(second))...)) {
			t.Errorf("File(%q): lists share memory", text)
		}
	}
	for _, text := range rows() {
		first, second := row(t, text), row(t, text)
		if !apart(append(pieces(reflect.ValueOf(first)), pieces(reflect.ValueOf(second))...)) {
			t.Errorf("Numbers(%q): lists share memory", text)
		}
	}
}

// TestFaultsApart: a fault that was told may be written over.
func TestFaultsApart(t *testing.T) {
	for text, want := range map[string]api.Fault{"1 ]": fault(api.ErrSyntax, 1, 3, "]"), "1 .": fault(api.ErrByte, 1, 3, ".")} {
		for range 2 {
			_, err := parse.Numbers(text)
			f, ok := err.(*api.Fault)
			if !ok || *f != want {
				t.Fatalf("Numbers(%q): %v", text, err)
			}
			*f = api.Fault{}
		}
	}
}

// TestNormal: all numbers that are answered are normal.
func TestNormal(t *testing.T) {
	normal := func(a api.Nat) bool { return len(a) == 0 || a[len(a)-1] != 0 }
	for _, sum := range row(t, "0, 00.0, 007, 0.500, 2e5, 1e-9, 4294967296, 0e7, 10e-1") {
		x := sum[0].Number
		if !normal(x.Num.Mag) || !normal(x.Den) || len(x.Den) == 0 || x.Num.Neg || nat.Cmp(nat.Gcd(x.Num.Mag, x.Den), nat.Of(1)) != 0 {
			t.Errorf("%v is not normal", x)
		}
	}
	for _, digits := range []string{"0", "000", "007", "0000000000000000000000004294967296"} {
		f, err := parse.File("network n { } variable x { type discrete [" + digits + "] { a }; }")
		if err != nil || len(f.Vars) != 1 || !normal(f.Vars[0].Count) {
			t.Errorf("[%s]: %v, %v", digits, f, err)
		}
	}
}

// long is how many bytes the texts here have: enough to be seen among all that
// is held.
const long = 1 << 24

// heap is how many bytes are held.
func heap() int {
	runtime.GC()
	var now runtime.MemStats
	runtime.ReadMemStats(&now)
	return int(now.HeapAlloc)
}

// TestTextIsNotKept: what is answered of a long text does not hold the text.
func TestTextIsNotKept(t *testing.T) {
	for what, call := range map[string]func(text string) any{
		"File": func(text string) any {
			f, err := parse.File(rain + "/*" + text + "*/")
			return []any{f, err}
		},
		"Numbers":   func(text string) any { l, err := parse.Numbers("1, 0.5 //" + text); return []any{l, err} },
		"ErrSyntax": func(text string) any { _, err := parse.File("/*" + text + "*/ net"); return err },
		"ErrText":   func(text string) any { _, err := parse.Numbers("1 /*" + text); return err },
	} {
		before := heap()
		got := call(strings.Repeat("x", long))
		if held := heap() - before; held > long/2 {
			t.Errorf("%s holds %d bytes", what, held)
		}
		runtime.KeepAlive(got)
	}
}

// TestLongFiles: long texts of many kinds end, and soon.
func TestLongFiles(t *testing.T) {
	const count = 1 << 14
	for _, c := range []struct{ ahead, piece, behind string }{
		{"network n {", `property "a";`, "}"},
		{"network n { }", "variable x { type discrete [2] { a, b }; }", ""},
		{"network n { }", "probability (a | b) { (c) 1/2, 0.5; }", ""},
		{"network n { } variable x { type discrete [2] { a", ", b", "}; }"},
		{"network n { } probability (a | b", ", b", ") { }"},
		{"network n { } probability (a) {", "table 1;", "}"},
		{"network n { } probability (a) { (a", ", b", ") 1; }"},
		{"network n { } probability (a) { table 1", ", (-(2))", "; }"},
	} {
		all := strings.Repeat(c.piece, count)
		if f, err := parse.File(c.ahead + all + c.behind); err != nil || f.Name != "n" {
			t.Errorf("%s%s ..: %v", c.ahead, c.piece, err)
		}
		if _, err := parse.File(c.ahead + all + "]"); faultOf(err).Word != "]" {
			t.Errorf("%s%s .. ]: %v", c.ahead, c.piece, err)
		}
	}
}
