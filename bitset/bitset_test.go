package bitset

import (
	"math/rand"
	"slices"
	"testing"
)

// edges are numbers at the ends of the words of bits, of some of them alone.
var edges = []int{0, 1, 63, 64, 127, 128, 1023, 1024, 1984, 2046, 2047}

func TestNumbersAlone(t *testing.T) {
	for number := range Size {
		s := Of([]int{number})
		if !s.Has(number) || !slices.Equal(s.List(), []int{number}) || First(&s, &s) != number {
			t.Error(number, s.List())
		}
		if s.Has((number+1)%Size) || s.Has((number+Size-1)%Size) || s.Has((number+64)%Size) {
			t.Error(number, "has others")
		}
		s.Remove(number)
		if s != (Set{}) || s.Has(number) || s.List() != nil || First(&s, &s) != None {
			t.Error(number, "stays")
		}
	}
}

func TestBelow(t *testing.T) {
	for _, count := range append([]int{Size}, edges...) {
		s := Below(count)
		list := s.List()
		if len(list) != count || count > 0 && (list[0] != 0 || list[count-1] != count-1) {
			t.Error(count, list)
		}
	}
}

func TestOfEach(t *testing.T) {
	sets := OfEach([][]int{{5, 3, 5}, nil, edges})
	if len(sets) != 3 || sets[0] != Of([]int{3, 5}) || sets[1] != (Set{}) || !slices.Equal(sets[2].List(), edges) {
		t.Error(sets)
	}
	if sets := OfEach(nil); len(sets) != 0 {
		t.Error(sets)
	}
}

// only are the numbers of which something is so.
func only(is func(number int) bool) []int {
	var list []int
	for number := range Size {
		if is(number) {
			list = append(list, number)
		}
	}
	return list
}

// Two sets, held against lists.
func TestTwoSets(t *testing.T) {
	r := rand.New(rand.NewSource(1))
	for range 300 {
		var lists [2][]int
		for i := range lists {
			for range r.Intn(200) {
				lists[i] = append(lists[i], r.Intn(Size))
			}
			lists[i] = append(lists[i], edges[r.Intn(len(edges))])
		}
		a, b := Of(lists[0]), Of(lists[1])
		inA := func(n int) bool { return slices.Contains(lists[0], n) }
		inB := func(n int) bool { return slices.Contains(lists[1], n) }
		common := only(func(n int) bool { return inA(n) && inB(n) })
		both, joined, cut := Meet(&a, &b), a, a
		joined.Join(&b)
		cut.Cut(&b)
		first := None
		if len(common) > 0 {
			first = common[0]
		}
		if !slices.Equal(both.List(), common) || First(&a, &b) != first || First(&b, &a) != first {
			t.Fatal(lists, both.List())
		}
		if !slices.Equal(joined.List(), only(func(n int) bool { return inA(n) || inB(n) })) {
			t.Fatal(lists, joined.List())
		}
		if !slices.Equal(cut.List(), only(func(n int) bool { return inA(n) && !inB(n) })) {
			t.Fatal(lists, cut.List())
		}
		if a != Of(lists[0]) || b != Of(lists[1]) {
			t.Fatal(lists, "changed")
		}
	}
}
