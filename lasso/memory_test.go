package lasso

import (
	"slices"
	"testing"
	"unsafe"

	"watchway/api"
)

// mark is what stands in the room behind lists; no answer has it.
const mark = 0xdead

// roomyList is a list with marked room behind it.
func roomyList(list []uint64) []uint64 {
	return append(slices.Clone(list), mark, mark)[:len(list)]
}

// roomy is a word with marked room behind its lists.
func roomy(w api.Word) api.Word { return word(roomyList(w.Stem), roomyList(w.Loop)) }

// stays tells whether a roomy word, room included, is what it was.
func stays(got, was api.Word) bool {
	whole := func(list []uint64) []uint64 { return list[:len(list)+2] }
	return slices.Equal(whole(got.Stem), append(slices.Clone(was.Stem), mark, mark)) &&
		slices.Equal(whole(got.Loop), append(slices.Clone(was.Loop), mark, mark))
}

// handed are words of all sorts, wrong ones among them.
func handed() []api.Word {
	list := []api.Word{sized(0, 0), sized(3, 0), sized(61, 0), sized(60, 1), sized(0, 61), sized(3, 4), sized(0, 60), sized(59, 1)}
	for _, c := range leasts {
		list = append(list, c.given)
	}
	return list
}

func TestHandedInStays(t *testing.T) {
	for _, was := range handed() {
		v, w := roomy(was), roomy(was)
		f := of(api.LUntil, atom(0), of(api.LNot, atom(1)))
		f.Kids = append(f.Kids, atom(9))[:2]
		Check(w)
		At(w, 5)
		Holds(f, w)
		Least(w)
		Same(v, w)
		if !stays(v, was) || !stays(w, was) {
			t.Error(was, v, w)
		}
		if k := f.Kids[:3]; k[0].N != 0 || k[1].Kids[0].N != 1 || k[2].N != 9 || f.Kind != api.LUntil {
			t.Error(f)
		}
	}
}

// reaches tells whether two lists, room included, have a byte in common, or begin at the same one.
func reaches(a, b []uint64) bool {
	if a == nil || b == nil {
		return false
	}
	beginA, beginB := uintptr(unsafe.Pointer(unsafe.SliceData(a))), uintptr(unsafe.Pointer(unsafe.SliceData(b)))
	endA, endB := beginA+uintptr(cap(a))*8, beginB+uintptr(cap(b))*8
	return beginA < endB && beginB < endA || beginA == beginB
}

func TestAnswersLieApart(t *testing.T) {
	for _, was := range handed() {
		w := roomy(was)
		got, _ := Least(w)
		if reaches(got.Stem, got.Loop) {
			t.Error(was, "the lists of the answer share memory")
		}
		for _, a := range [][]uint64{got.Stem, got.Loop} {
			if reaches(a, w.Stem) || reaches(a, w.Loop) {
				t.Error(was, "the answer shares memory with what was handed in")
			}
		}
	}
}

// An answer that is spoilt, room included, alters no later one.
func TestNothingIsKept(t *testing.T) {
	f := of(api.LUntil, of(api.LTrue), of(api.LNext, atom(0)))
	for _, c := range leasts {
		before, _ := Holds(f, c.given)
		first := slices.Clone(before)
		for i := range before[:cap(before)] {
			before[:cap(before)][i] = !first[0]
		}
		got, _ := Least(c.given)
		for _, list := range [][]uint64{got.Stem, got.Loop} {
			for i := range list[:cap(list)] {
				list[:cap(list)][i] = mark
			}
		}
		Least(sized(60, 1))
		if list, e := Holds(f, c.given); e != api.OK || !slices.Equal(list, first) {
			t.Error(c.given, list, e)
		}
		if w, e := Least(c.given); e != api.OK || !equal(w, c.want) {
			t.Error(c.given, w, e)
		}
	}
}
