package tableau

import (
	"slices"
	"testing"

	"watchway/api"
)

// mark is what stands in the room behind lists; no answer has it.
const mark = -77

// roomy is a formula with marked room behind its lists of Kids, empty ones included.
func roomy(f api.Ltl) api.Ltl {
	kids := make([]api.Ltl, 0, len(f.Kids)+2)
	for _, kid := range f.Kids {
		kids = append(kids, roomy(kid))
	}
	f.Kids = append(kids, atom(mark), atom(mark))[:len(kids)]
	return f
}

// whole is a formula with the room behind its lists made a part of them.
func whole(f api.Ltl) api.Ltl {
	var kids []api.Ltl
	for _, kid := range f.Kids[:cap(f.Kids)] {
		kids = append(kids, whole(kid))
	}
	f.Kids = kids
	return f
}

// spoilFormula overwrites all lists of a formula, room included.
func spoilFormula(f api.Ltl) {
	for _, kid := range f.Kids {
		spoilFormula(kid)
	}
	kids := f.Kids[:cap(f.Kids)]
	for i := range kids {
		kids[i] = atom(mark)
	}
}

// lists are all lists of an automaton, room included.
func lists(a api.Auto) [][]int {
	all := slices.Concat(a.Next[:cap(a.Next)], a.Fair[:cap(a.Fair)], [][]int{a.Start})
	for i, list := range all {
		all[i] = list[:cap(list)]
	}
	return all
}

// spoil overwrites all lists of an automaton, room included.
func spoil(a api.Auto) {
	for _, list := range lists(a) {
		for i := range list {
			list[i] = mark
		}
	}
	for _, list := range [][]uint64{a.Must[:cap(a.Must)], a.Not[:cap(a.Not)]} {
		for i := range list {
			list[i] = 0x7ead
		}
	}
	clear(a.Next[:cap(a.Next)])
	clear(a.Fair[:cap(a.Fair)])
}

// clone is a copy of an automaton.
func clone(a api.Auto) api.Auto {
	a.Start, a.Must, a.Not = slices.Clone(a.Start), slices.Clone(a.Must), slices.Clone(a.Not)
	a.Next, a.Fair = slices.Clone(a.Next), slices.Clone(a.Fair)
	for _, all := range [][][]int{a.Next, a.Fair} {
		for i, list := range all {
			all[i] = slices.Clone(list)
		}
	}
	return a
}

// handed are formulas of all sorts: with elements of all Kinds and without any, as many as there may be and more.
func handed(t *testing.T) []api.Ltl {
	list := slices.Concat(counted(t, 10)[7:], counted(t, 11)[:4])
	for _, s := range []string{
		"true", "false", "a", "!a", "a / b & c", "X a", "X true", "F a", "G a", "a U b", "a R b", "a U b / a U b", "F a & G a & (true U a)",
		"!((a U X !b) R (F a & G !b / true)) & !(c R X silent)",
	} {
		list = append(list, read(t, s))
	}
	return list
}

func TestHandedInStays(t *testing.T) {
	list := handed(t)
	for _, x := range wrongs()[:20] {
		list = append(list, x.f)
	}
	for _, f := range list {
		given, want := roomy(f), key(whole(roomy(f)))
		Make(given)
		if key(whole(given)) != want {
			t.Error(f, given)
		}
	}
}

// No list of an answer shares memory with another one, room included.
func TestAnswersLieApart(t *testing.T) {
	for _, f := range handed(t) {
		a, _ := Make(f)
		lies := map[any]bool{}
		put := func(place any) {
			if lies[place] {
				t.Fatal(f, "shares memory")
			}
			lies[place] = true
		}
		for _, list := range lists(a) {
			for i := range list {
				put(&list[i])
			}
		}
		for _, list := range [][]uint64{a.Must[:cap(a.Must)], a.Not[:cap(a.Not)]} {
			for i := range list {
				put(&list[i])
			}
		}
		for _, list := range [][][]int{a.Next[:cap(a.Next)], a.Fair[:cap(a.Fair)]} {
			for i := range list {
				put(&list[i])
			}
		}
	}
}

// What is handed in may have one list at several places.
func TestSharedKids(t *testing.T) {
	kid := roomy(read(t, "X !a"))
	leaf := roomy(atom(1))
	for _, kind := range []int{api.LAnd, api.LOr, api.LUntil, api.LRelease} {
		f := of(kind, of(api.LNext, kid), of(api.LOr, kid, leaf))
		f = of(kind, f, of(api.LAnd, leaf, of(kind, kid, f)))
		if _, e := agree(t, f); e != api.OK {
			t.Error(f, e)
		}
	}
}

// An answer that is spoilt, room included, alters no later one; what was handed in, spoilt afterwards, no answer; an error leaves nothing behind.
func TestNothingIsKept(t *testing.T) {
	for _, f := range handed(t) {
		given := roomy(f)
		first, e := Make(given)
		want := clone(first)
		spoilFormula(given)
		if !sameAuto(first, want) {
			t.Error(f, "hangs on what was handed in")
		}
		spoil(first)
		for _, x := range wrongs() {
			Make(x.f)
		}
		if again, e2 := agree(t, f); e2 != e || !sameAuto(again, want) {
			t.Error(f, e, e2)
		}
	}
}
