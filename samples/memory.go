package samples

import "slices"

// roomBehind is how much spare room a list that is handed in has at least.
const roomBehind = 8

// Call is a call that is handed some lists and answers some.
type Call[T comparable] func(lists [][]T) [][]T

// Marks are two elements that tests tell apart: one for the spare room of what
// is handed in, one to write over lists with.
type Marks[T comparable] struct{ Spare, Ink T }

// Alone says what is wrong with a call's memory, nothing if all is well: what
// is handed in is not changed, its spare room neither, and an answer shares
// nothing with it, with another answer, or with a later one.
func Alone[T comparable](call Call[T], lists [][]T, marks Marks[T]) string {
	room := handed(lists, marks.Spare)
	got := call(room)
	want := copies(got)
	if !untouched(room, lists, marks.Spare) {
		return "what was handed in was changed"
	}
	for i := range got {
		scrawl(got[i], marks.Ink)
		if !untouched(room, lists, marks.Spare) {
			return "an answer shares memory with what was handed in"
		}
		if !slices.EqualFunc(got[i+1:], want[i+1:], slices.Equal) {
			return "two answers share memory"
		}
	}
	return kept(call, room, want, marks.Ink)
}

// kept says whether answers are told anew, and stay what they are whatever
// becomes of what was handed in.
func kept[T comparable](call Call[T], room, want [][]T, ink T) string {
	again := call(room)
	if !slices.EqualFunc(again, want, slices.Equal) {
		return "the second answer is another one than the first"
	}
	for _, list := range room {
		scrawl(list, ink)
	}
	if !slices.EqualFunc(again, want, slices.Equal) {
		return "what was handed in shares memory with an answer"
	}
	return ""
}

// handed are lists with some spare room behind each.
func handed[T comparable](lists [][]T, spare T) [][]T {
	room := make([][]T, len(lists))
	for i, list := range lists {
		room[i] = slices.Concat(list, slices.Repeat([]T{spare}, roomBehind))[:len(list)]
	}
	return room
}

// untouched is whether lists are as they were, their spare room too.
func untouched[T comparable](now, before [][]T, spare T) bool {
	for i, list := range now {
		rest := list[len(list) : len(list)+roomBehind]
		if !slices.Equal(list, before[i]) || !slices.Equal(rest, slices.Repeat([]T{spare}, roomBehind)) {
			return false
		}
	}
	return true
}

// scrawl writes over a list and its spare room.
func scrawl[T comparable](list []T, ink T) {
	list = list[:cap(list)]
	for i := range list {
		list[i] = ink
	}
}

// copies are lists, each in memory of its own.
func copies[T comparable](lists [][]T) [][]T {
	out := make([][]T, len(lists))
	for i, list := range lists {
		out[i] = slices.Concat(list, nil)
	}
	return out
}
