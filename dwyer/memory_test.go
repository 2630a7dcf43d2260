package dwyer

import (
	"slices"
	"testing"

	"watchway/api"
	"watchway/ltl"
)

// mark is what stands in the room behind lists.
const mark = 0xdead

// roomy is a list with marked room behind it.
func roomy(list []uint64) []uint64 {
	return append(slices.Clone(list), mark, mark)[:len(list)]
}

// stays tells whether a roomy list, room included, is what it was.
func stays(got, was []uint64) bool {
	return slices.Equal(got[:len(got)+2], append(slices.Clone(was), mark, mark))
}

func TestHandedInStays(t *testing.T) {
	for _, p := range patterns(atomP, atomS, atomQ, atomR) {
		for _, text := range []string{"|.", "p|", "pq s r|p q", "q . r|psqr", "|pq s", "r|r q"} {
			was := word(text)
			w := api.Word{Stem: roomy(was.Stem), Loop: roomy(was.Loop)}
			Means(p, w)
			if !stays(w.Stem, was.Stem) || !stays(w.Loop, was.Loop) {
				t.Error(p, text, w)
			}
		}
	}
}

// lists hands over all lists of a formula.
func lists(f api.Ltl, do func([]api.Ltl)) {
	do(f.Kids)
	for _, kid := range f.Kids {
		lists(kid, do)
	}
}

func TestListsOfAnAnswerLieApart(t *testing.T) {
	for _, p := range patterns(atomP, atomS, atomQ, atomR) {
		f, _ := Make(p)
		g, _ := Make(p)
		seen := map[*api.Ltl]bool{}
		for _, made := range []api.Ltl{f, g} {
			lists(made, func(kids []api.Ltl) {
				kids = kids[:cap(kids)]
				for i := range kids {
					if seen[&kids[i]] {
						t.Error(p, "two lists share memory")
					}
					seen[&kids[i]] = true
				}
			})
		}
	}
}

func TestSpoiltAnswersAreNotKept(t *testing.T) {
	for _, p := range patterns(atomP, atomS, atomQ, atomR) {
		f, e := Make(p)
		text, _ := ltl.Print(f, names)
		var all [][]api.Ltl
		lists(f, func(kids []api.Ltl) { all = append(all, kids[:cap(kids)]) })
		for _, kids := range all {
			for i := range kids {
				kids[i] = api.Ltl{Kind: mark}
			}
		}
		g, again := Make(p)
		if other, _ := ltl.Print(g, names); again != e || other != text {
			t.Error(p, text, other)
		}
	}
}

// What came ahead of a call, errors too, doesn't change what it answers.
func TestNothingIsKept(t *testing.T) {
	w := word("pq s r|p q")
	for _, p := range patterns(atomP, atomS, atomQ, atomR) {
		is, e := Means(p, w)
		f, e2 := Make(p)
		for _, other := range patterns(atomR, atomQ, atomS, atomP) {
			Means(other, word("|pqrs"))
			Make(other)
		}
		Check(api.Pattern{})
		Means(api.Pattern{}, w)
		Means(p, api.Word{})
		Make(api.Pattern{})
		again, e3 := Means(p, w)
		g, e4 := Make(p)
		if again != is || e3 != e || e4 != e2 || !ltl.Same(f, g) {
			t.Error(p)
		}
	}
}
