package show_test

import (
	"math/rand"
	"reflect"
	"strings"
	"testing"

	"credence/api"
	"credence/nat"
	"credence/samples"
	"credence/show"
)

// R3, R5: what is handed in is not changed, its spare room neither; answers
// are told anew each time.

// roomy is a value with the same elements, all of its lists with spare room
// behind, in which something stands.
func roomy(v reflect.Value) reflect.Value {
	out := reflect.New(v.Type()).Elem()
	switch v.Kind() {
	case reflect.Slice:
		l := reflect.MakeSlice(v.Type(), v.Len()+4, v.Len()+4)
		for i := range l.Len() {
			if i < v.Len() {
				l.Index(i).Set(roomy(v.Index(i)))
				continue
			}
			mark(l.Index(i))
		}
		out.Set(l.Slice(0, v.Len()))
	case reflect.Struct:
		for i := range v.NumField() {
			out.Field(i).Set(roomy(v.Field(i)))
		}
	default:
		out.Set(v)
	}
	return out
}

// mark writes something into spare room.
func mark(v reflect.Value) {
	switch v.Kind() {
	case reflect.Slice:
		v.Set(reflect.MakeSlice(v.Type(), 1, 1))
		mark(v.Index(0))
	case reflect.Struct:
		for i := range v.NumField() {
			mark(v.Field(i))
		}
	case reflect.String:
		v.SetString("spare")
	case reflect.Bool:
		v.SetBool(true)
	case reflect.Int, reflect.Int8:
		v.SetInt(77)
	default:
		v.SetUint(77)
	}
}

// sameRoom is whether two values are the same, the spare room of their lists
// too.
func sameRoom(a, b reflect.Value) bool {
	switch a.Kind() {
	case reflect.Slice:
		if a.Len() != b.Len() || a.Cap() != b.Cap() {
			return false
		}
		a, b = a.Slice(0, a.Cap()), b.Slice(0, b.Cap())
		for i := range a.Len() {
			if !sameRoom(a.Index(i), b.Index(i)) {
				return false
			}
		}
		return true
	case reflect.Struct:
		for i := range a.NumField() {
			if !sameRoom(a.Field(i), b.Field(i)) {
				return false
			}
		}
		return true
	}
	return a.Equal(b)
}

// checkUntouched holds a value behind two calls against what it was, and the
// answers against one another.
func checkUntouched[T any](t *testing.T, value T, call func(T) (string, api.Errno)) {
	t.Helper()
	plain, code := call(value)
	room := roomy(reflect.ValueOf(value))
	before := roomy(reflect.ValueOf(value))
	for range 2 {
		got, e := call(room.Interface().(T))
		if got != plain || e != code {
			t.Fatalf("%v: %q, %v, and then %q, %v", value, plain, code, got, e)
		}
		if !sameRoom(room, before) {
			t.Fatalf("%v was changed", value)
		}
	}
}

// TestSameRoom: the look at memory sees what was changed.
func TestSameRoom(t *testing.T) {
	n := rain()
	room, before := roomy(reflect.ValueOf(n)), roomy(reflect.ValueOf(n))
	if !sameRoom(room, before) || sameRoom(room, reflect.ValueOf(n)) {
		t.Error("sameRoom does not look")
	}
	changed := room.Interface().(api.Net)
	changed.Parents[0] = append(changed.Parents[0], 1)
	changed.Parents[0] = changed.Parents[0][:0]
	if sameRoom(room, before) {
		t.Error("spare room was changed, and nobody saw it")
	}
}

func TestHandedInIsUntouched(t *testing.T) {
	for l := range samples.Expressions(5) {
		checkUntouched(t, l, show.Terms)
	}
	for _, list := range []string{"", "1 +", "1 2", "1/3", "-1", "1 k7", "1" + strings.Repeat(" n", 65)} {
		checkUntouched(t, samples.Terms(list), show.Terms)
	}
	odd := api.Rat{Num: api.Int{Neg: true, Mag: api.Nat{0, 0}}, Den: api.Nat{6, 0}}
	checkUntouched(t, []api.Term{samples.Number(odd), samples.Number(ratio(6, 4)), samples.Sign(api.TermTimes)}, show.Terms)
	m := maker{rand.New(rand.NewSource(87))}
	for range 200 {
		checkUntouched(t, m.file(), show.File)
		n := made(m.Rand)
		checkUntouched(t, n, show.Net)
		n.Names = append(n.Names, "x")
		checkUntouched(t, n, show.Net)
	}
	checkUntouched(t, rain(), show.Net)
	checkUntouched(t, all(t), show.File)
}

// TestLongFiles: long lists of everything.
func TestLongFiles(t *testing.T) {
	const count = 20000
	f := api.File{Name: "n"}
	for range count {
		f.Properties = append(f.Properties, "p")
		f.Vars = append(f.Vars, api.VarDecl{Name: "x", Count: nat.Of(1), Values: []string{"v"}})
		f.Probs = append(f.Probs, api.ProbDecl{Name: "x", Parents: []string{"y"}, Entries: []api.Entry{{Kind: api.EntryRow, Given: []string{"v"}, Numbers: [][]api.Term{{samples.Whole(1)}}}}})
	}
	checkFile(t, f, "network n {\n"+strings.Repeat("  property \"p\";\n", count)+"}\n"+
		strings.Repeat("variable x {\n  type discrete [1] { v };\n}\n", count)+
		strings.TrimSuffix(strings.Repeat("probability (x | y) {\n  (v) 1;\n}\n", count), "\n"))
	f.Probs[count-1].Entries[0].Kind = 4
	if got, e := show.File(f); e != api.ErrSyntax || got != "" {
		t.Errorf("File: %d bytes, %v", len(got), e)
	}
}
