package dwyer

import (
	"slices"
	"strings"
	"testing"

	"watchway/api"
)

// The atoms of the tests.
const (
	atomP = iota
	atomS
	atomQ
	atomR
)

// names are theirs in texts.
var names = []string{"p", "s", "q", "r"}

// word reads a word: letters with a blank between, the Loop behind a bar; a letter is its atoms, or a point.
func word(text string) api.Word {
	stem, loop, _ := strings.Cut(text, "|")
	return api.Word{Stem: letters(stem), Loop: letters(loop)}
}

func letters(text string) []uint64 {
	var list []uint64
	for _, field := range strings.Fields(text) {
		letter := uint64(0)
		for _, sign := range field {
			if sign != '.' {
				letter |= 1 << slices.Index(names, string(sign))
			}
		}
		list = append(list, letter)
	}
	return list
}

func TestWordOfTests(t *testing.T) {
	got := word("p .  sq|r pr")
	if !slices.Equal(got.Stem, []uint64{1, 0, 6}) || !slices.Equal(got.Loop, []uint64{8, 9}) {
		t.Error(got)
	}
}

// byHand tells of patterns, by Kind and Scope, which words keep to them.
var byHand = []struct {
	kind, scope, count int
	keep, not          string // words, a comma between
}{
	{api.PAbsence, api.SGlobal, 0, "|., s|q r", "p|., |p, |. . p, . . p|., s|s p"},
	{api.PUniversal, api.SGlobal, 0, "|p, p|p, ps pq|p p", "|., .|p, p|p ., p p .|p"},
	{api.PExistence, api.SGlobal, 0, "|p, p|., . . p|., |. . p", "|., s|q r"},
	{api.PBounded, api.SGlobal, 0, "|.", "p|., |p, |. p"},
	{api.PBounded, api.SGlobal, 1, "|., p|., . . p .|s", "p p|., p . p|., |p, p|p"},
	{api.PBounded, api.SGlobal, 2, "p p|., p . . p|s", "p p p|., |. . . . p"},
	{api.PBounded, api.SGlobal, 3, "p p p|., p . p . p|s", "p p p p|., |. p, p p|. . p, p p p|p"},
	{api.PPrecedence, api.SGlobal, 0, "|., |ps, s|p, |s p, . s . p|p, ps|p", "|p, p|s, |p s, . p|ps, . . p s|."},
	{api.PResponse, api.SGlobal, 0, "|., |ps, p|s, |p s, |s p, p . . s|., |. . p . s", "|p, s|p, p s p|., p s|p, |p ."},

	// Ahead of the first R.
	{api.PAbsence, api.SBefore, 0, "|., p|., |p, r|p, pr|p, . r|p, . . r p|r", "p r|., p|r, |p r, . p . r|."},
	{api.PUniversal, api.SBefore, 0, "|., r|., p p r|., p|r, .|p", ". r|., p . r|., |p . r, p .|r"},
	// No place of no places has P.
	{api.PExistence, api.SBefore, 0, "|., |p, p r|., . p|r, |. p r", "r|p, pr|p, . r|p, |r, |pr, . pr|., |. r p"},
	{api.PBounded, api.SBefore, 1, "|p, r|p, p r|p, pr|p, p pr|p, . p . r|p p, p p p|.", "p p r|., |p p r, p p|r, p . p . r|."},
	{api.PBounded, api.SBefore, 3, "p p p r|p, |p, |p p p r", "p p p p r|., p p p p|r, |p p p p r"},
	{api.PPrecedence, api.SBefore, 0, "|., |p, p|., s p r|., ps r|., r|p, pr|p, p s|.", "p r|s, p s r|., . p|r, |p r, p sr|., |p s r"},
	{api.PResponse, api.SBefore, 0, "|p, p|., p s r|., ps r|., s p s r|., r p|., pr|., |p s r", "p r|s, p sr|., p|r s, s p r|s, p . sr|s, |p r s"},

	// From the first Q on.
	{api.PAbsence, api.SAfter, 0, "|., |p, p|., p q|., p|q, p p|q .", "pq|., q|p, |pq, |p q, |q p, q p|., . q . p|."},
	{api.PUniversal, api.SAfter, 0, "|., .|p, |pq, . pq|p, . pq|pq", "q|p, |q, pq .|p, |pq ., |q p"},
	{api.PExistence, api.SAfter, 0, "|., p|., q p|., |pq, |p q, pq|., . q . p|.", "|q, p q|., p p|q, q|."},
	{api.PBounded, api.SAfter, 1, "p p p|., pq|., p p q p|., q . p|q, q|.", "pq p|., q p . p|., |pq, |q p, p q|p"},
	{api.PBounded, api.SAfter, 3, "p p q p p p|., pq p p|q", "pq p p p|., |. . p q, q p p p p|q"},
	{api.PPrecedence, api.SAfter, 0, "|., p|., p q|., qs p|., q s p|., |psq, . q s|p, |s p q, sq p p|q s", "s q p|., q p|s, |pq, |s q p, |p s q, s p q p|q s, s pq|s"},
	{api.PResponse, api.SAfter, 0, "|p, p q|., qp s|., q p|s, |psq, |p s q, |s p q, |q p s", "q p|., pq|., |pq, q s p|., s|pq"},

	// From each Q to the next R; the Q is a part of it, the R isn't.
	{api.PAbsence, api.SBetween, 0, "|., |p, q|p, p q r|p, q pr|p, q . r p|., pqr r|., p r q|., p r q r|p, q|., |r p q", "pq r|., q p r|., |q p r, |p r q, q . p|r, q r . q . p r|., pq q r|."},
	{api.PUniversal, api.SBetween, 0, "|., |q, q|., pq r|., pq p r|., . qr . r|., |r pq p, |qr", "q r|., q p r|., pq . r|., |pq . r, pq r q|p r, q pq r|."},
	{api.PExistence, api.SBetween, 0, "|., |q, q|., q p r|., pq r|., q q p r|., qr|r, |r . pq, r q p|r", "q r|., q pr|p, q . r|p, |q r, q p q r|., |r q, q r p|."},
	{api.PBounded, api.SBetween, 0, "q p|., q r|p", "q p r|., |p q p r"},
	{api.PBounded, api.SBetween, 1, "pq r pq r|., |pq r, pq pr|p, p q p r|p, q p p|., q . p . r p p|., |p r q", "pq p r|., |p q p r p q, q p . p . r|., q . r q p p r|., |p p r q"},
	{api.PBounded, api.SBetween, 3, "pq p p r|., |p q p r p p, q p p p p|p, |p p r pq", "pq p p p r|., |p p p r pq, q r q p p p p r|."},
	{api.PPrecedence, api.SBetween, 0, "|p q, q p|., sq p r|., psq r|., q r p|., qr p r|., |s p r q, |psq r, p s q r|.", "pq r|s, q p r|., s pq r|., q p sr|., q p s r|., sq r q p r|., q s q p r|., |s r p q p r"},
	{api.PResponse, api.SBetween, 0, "|p q, q p|., pq s r|., psq r|., q p s r|., qr p r|., |q p s r, |p s r q, |s r q p, p q r|s", "pq r|s, q p r|s, q p sr|s, q s p r|s, q p s p r|., q p s q p r|., |q p r s, |p r s q"},

	// The same, and from each Q for ever, if no R comes.
	{api.PAbsence, api.SUntil, 0, "|., p|., p q|., q r|p, q pr|p, pqr|p, |r p q, p r p|q, q|r p", "pq|., q p|., q|p, |q p, pq r|., q r q p|., q p|r"},
	{api.PUniversal, api.SUntil, 0, "|., |pq, . pq|p, pq r|., |r pq p, qr|., pq p|r", "|q, pq|., pq . r|., q|p, pq r pq .|p"},
	{api.PExistence, api.SUntil, 0, "|., |pq, q|p, q p|., q . p r|., |pq r, qr|., |q p, r p|qr", "|q, q|., q r|p, q p r q|., q p q|., q pr|p, |r q, p|q"},
	{api.PBounded, api.SUntil, 1, "p p|., pq|., |q, q p r p p|., pq r pq r pq|., |q p r, p p|q", "pq p|., |pq, q|p, q . p p r|., pq r q|p, q p p|r, pq q p|."},
	{api.PBounded, api.SUntil, 3, "pq p p|., p p q p p p r|p, |pq p p r, |q p p r p p", "pq p p p|., |pq, |q p p r q p p, q r q|p"},
	{api.PPrecedence, api.SUntil, 0, "|., p|., sq|p, q s|p, psq|p, q r p|., |s p r q, p|q, qr|p, |s p q", "q|p, pq|s, s q|p, |p q, |s q p, sq r q|p, q p sr|., sq pq s|., q p|r"},
	{api.PResponse, api.SUntil, 0, "|., |p, pq|s, |pq s, |s p q, psq|., q p s r p|., qr p|., |q p s r, |q r p", "pq|., q|p, |pq, q p r|s, q p sr|s, q s|p, q p s r q p|., |q p r s, q p|r"},
}

func TestMeansByHand(t *testing.T) {
	for _, c := range byHand {
		p := pattern(c.kind, c.scope, atomP, atomS, atomQ, atomR)
		p.Count = c.count
		for _, list := range []struct {
			words string
			want  bool
		}{{c.keep, true}, {c.not, false}} {
			for _, text := range strings.Split(list.words, ",") {
				if is, e := Means(p, word(text)); is != list.want || e != api.OK {
					t.Error(p, text, is, e)
				}
			}
		}
	}
}

// Each pair of a Kind and a Scope is tried by hand.
func TestByHandIsWhole(t *testing.T) {
	tried := map[[2]int]bool{}
	for _, c := range byHand {
		tried[[2]int{c.kind, c.scope}] = true
	}
	if len(tried) != 30 {
		t.Error(len(tried))
	}
}

func TestMeansOneAtomForSeveral(t *testing.T) {
	for _, c := range []struct {
		p    api.Pattern
		text string
		want bool
	}{
		{pattern(api.PResponse, api.SGlobal, 0, 0, 0, 0), "|p .", true},
		{pattern(api.PPrecedence, api.SGlobal, 0, 0, 0, 0), ". p|.", true},
		{pattern(api.PAbsence, api.SBefore, 0, 0, 0, 0), ". . p|p", true},
		{pattern(api.PUniversal, api.SBefore, 0, 0, 0, 0), ". p|p", false},
		{pattern(api.PUniversal, api.SBefore, 0, 0, 0, 0), "|p .", true},
		{pattern(api.PExistence, api.SAfter, 0, 0, 0, 0), ". p|.", true},
		{pattern(api.PAbsence, api.SAfter, 0, 0, 0, 0), ". p|.", false},
		{pattern(api.PBounded, api.SUntil, 0, 0, 0, 3), "p . r|.", false},
		// Each place with Q has R, so there is no interval.
		{pattern(api.PExistence, api.SBetween, 0, 0, 2, 2), "q . q|q .", true},
		{pattern(api.PExistence, api.SUntil, 0, 0, 2, 2), "q . q|q .", true},
	} {
		if is, e := Means(c.p, word(c.text)); is != c.want || e != api.OK {
			t.Error(c.p, c.text, is, e)
		}
	}
}

// Atom 63 and its neighbours are bits as others are.
func TestMeansGreatAtoms(t *testing.T) {
	w := api.Word{Stem: []uint64{1 << 62, 1 << 61, 1 << 63, 0}, Loop: []uint64{1 << 60}}
	for _, c := range []struct {
		p    api.Pattern
		want bool
	}{
		{pattern(api.PExistence, api.SBetween, 63, 0, 61, 60), true},
		{pattern(api.PExistence, api.SBetween, 62, 0, 61, 60), false},
		{pattern(api.PExistence, api.SBetween, 63, 0, 61, 63), false},
		{pattern(api.PResponse, api.SAfter, 63, 60, 62, 0), true},
		{pattern(api.PPrecedence, api.SBefore, 63, 61, 0, 60), true},
		{pattern(api.PPrecedence, api.SBefore, 61, 63, 0, 60), false},
		{pattern(api.PAbsence, api.SGlobal, 59, 0, 0, 0), true},
		{pattern(api.PAbsence, api.SGlobal, 63, 0, 0, 0), false},
	} {
		if is, e := Means(c.p, w); is != c.want || e != api.OK {
			t.Error(c.p, is, e)
		}
	}
}

// long is a word of that many letters that have nothing.
func long(stem, loop int) api.Word {
	return api.Word{Stem: make([]uint64, stem), Loop: make([]uint64, loop)}
}

func TestMeansErrors(t *testing.T) {
	good := pattern(api.PAbsence, api.SGlobal, 0, 0, 0, 0)
	bad := pattern(api.PAbsence, api.SGlobal, 64, 0, 0, 0)
	for _, c := range []struct {
		p    api.Pattern
		w    api.Word
		is   bool
		want api.Errno
	}{
		{good, long(0, 1), true, api.OK},
		{good, long(0, 60), true, api.OK},
		{good, long(59, 1), true, api.OK},
		{good, long(0, 0), false, api.ErrArg},
		{good, long(60, 0), false, api.ErrArg},
		{good, long(61, 0), false, api.ErrLarge},
		{good, long(60, 1), false, api.ErrLarge},
		{good, long(0, 61), false, api.ErrLarge},
		{good, long(0, 1<<20), false, api.ErrLarge},
		{bad, long(0, 1), false, api.ErrArg},
		{bad, long(0, 61), false, api.ErrArg},
		{api.Pattern{}, long(0, 61), false, api.ErrArg},
		{api.Pattern{}, api.Word{}, false, api.ErrArg},
	} {
		if is, e := Means(c.p, c.w); is != c.is || e != c.want {
			t.Error(c.p, len(c.w.Stem), len(c.w.Loop), is, e)
		}
	}
}

// In words of 60 letters what decides is at the farthest place from which it can be seen.
func TestMeansLongWords(t *testing.T) {
	for stem := range 60 {
		w := long(stem, 60-stem)
		w.Loop[len(w.Loop)-1] = 1<<atomP | 1<<atomR
		for _, c := range []struct {
			p    api.Pattern
			want bool
		}{
			{pattern(api.PExistence, api.SGlobal, atomP, 0, 0, 0), true},
			{pattern(api.PAbsence, api.SGlobal, atomP, 0, 0, 0), false},
			{pattern(api.PExistence, api.SBefore, atomP, 0, 0, atomR), false},
			{pattern(api.PAbsence, api.SBefore, atomP, 0, 0, atomR), true},
			{counted(3, api.SGlobal, atomP, 0, 0), false},
			{pattern(api.PExistence, api.SAfter, atomS, 0, atomP, 0), false},
			{counted(0, api.SAfter, atomP, atomR, 0), false},
		} {
			if is, e := Means(c.p, w); is != c.want || e != api.OK {
				t.Error(stem, c.p, is, e)
			}
		}
	}
}
