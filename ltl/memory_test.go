package ltl

import (
	"slices"
	"strings"
	"testing"
	"unsafe"

	"watchway/api"
)

// mark is what stands in the room behind lists; no answer has it.
const mark = -77

// roomy is a formula with marked room behind its lists of Kids.
func roomy(f api.Ltl) api.Ltl {
	kids := make([]api.Ltl, 0, len(f.Kids)+2)
	for _, kid := range f.Kids {
		kids = append(kids, roomy(kid))
	}
	f.Kids = append(kids, atom(mark), atom(mark))[:len(kids)]
	return f
}

// whole is a formula with the room behind its lists made a part of them.
func whole(f api.Ltl) api.Ltl {
	var kids []api.Ltl
	for _, kid := range f.Kids[:cap(f.Kids)] {
		kids = append(kids, whole(kid))
	}
	f.Kids = kids
	return f
}

// spoil overwrites all lists of a formula, room included.
func spoil(f api.Ltl) {
	for _, kid := range f.Kids {
		spoil(kid)
	}
	kids := f.Kids[:cap(f.Kids)]
	for i := range kids {
		kids[i] = atom(mark)
	}
}

// places hands over where the nodes in all lists of Kids lie, room included.
func places(f api.Ltl, do func(*api.Ltl)) {
	kids := f.Kids[:cap(f.Kids)]
	for i := range kids {
		do(&kids[i])
	}
	for _, kid := range f.Kids {
		places(kid, do)
	}
}

// manyKinds has all kinds, and Ws within Ws.
const manyKinds = "(a W X b W c) -> !(F a & true / G false) U silent R (a W b)"

func TestHandedInStays(t *testing.T) {
	f, _, e := Parse(manyKinds, abc)
	if e != api.OK {
		t.Fatal(e)
	}
	for _, f := range []api.Ltl{f, of(api.LAnd, atom(0), atom(9)), of(api.LAnd, atom(0), atom(64)), nots(25), full(7)} {
		handed, names := roomy(f), append(slices.Clone(abc), "mark")[:3]
		Check(handed)
		Print(handed, names)
		Parse(manyKinds, names)
		Parse("a & d", names)
		if !equal(whole(handed), whole(roomy(f))) || !slices.Equal(names[:4], append(slices.Clone(abc), "mark")) {
			t.Error(handed, names[:4])
		}
	}
}

func TestListsOfAnAnswerLieApart(t *testing.T) {
	for _, s := range []string{"a W b", "a W !b", "a W (a & b)", "a W b W c", "a W a W a W X a", "X(a W X b) W X c", manyKinds} {
		f, _, e := Parse(s, abc)
		if e != api.OK {
			t.Fatal(s, e)
		}
		seen := map[*api.Ltl]int{}
		places(f, func(p *api.Ltl) { seen[p]++ })
		for _, times := range seen {
			if times > 1 {
				t.Errorf("%q: two lists share memory", s)
			}
		}
	}
}

func TestSpoiltAnswersAreNotKept(t *testing.T) {
	for _, s := range []string{"true", "a", "silent", "a W !b", manyKinds} {
		f, _, _ := Parse(s, abc)
		text, _ := Print(f, abc)
		spoil(f)
		g, at, e := Parse(s, abc)
		if again, e2 := Print(g, abc); e != api.OK || at != 0 || e2 != api.OK || again != text {
			t.Errorf("%q: %q %q", s, text, again)
		}
	}
}

// The names are laid in bytes here, so that they can be spoilt behind Print's back.
func TestTextIsNoPieceOfNames(t *testing.T) {
	bytes := []byte("abcdefgh")
	names := []string{unsafe.String(&bytes[0], len(bytes))}
	alone, e := Print(atom(0), names)
	within, e2 := Print(of(api.LNot, atom(0)), names)
	for i := range bytes {
		bytes[i] = '?'
	}
	if e != api.OK || e2 != api.OK || alone != "abcdefgh" || within != "!abcdefgh" {
		t.Errorf("%q %v, %q %v", alone, e, within, e2)
	}
}

// An error at one call leaves nothing for the next one.
func TestNothingIsKept(t *testing.T) {
	want, _, _ := Parse(manyKinds, abc)
	for _, s := range []string{"", "a b", "d", "((((a", strings.Repeat("(", 21), strings.Repeat("!", 21), strings.Repeat("aW", 149) + "a", strings.Repeat("a", 301)} {
		Parse(s, abc)
		if f, at, e := Parse(manyKinds, abc); e != api.OK || at != 0 || !equal(f, want) {
			t.Error(f, at, e)
		}
	}
	if _, at, e := Parse(manyKinds, abc[:2]); e != api.ErrName || at != 11 {
		t.Error(at, e)
	}
}
