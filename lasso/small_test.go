package lasso

import (
	"math/rand"
	"slices"
	"testing"

	"watchway/api"
)

// plainRow are the first letters of a word: the Loop is written down again and again, till there are enough.
func plainRow(w api.Word, count int) []uint64 {
	row := append([]uint64{}, w.Stem...)
	for len(row) < count {
		row = append(row, w.Loop...)
	}
	return row[:count]
}

// plainHolds is what a formula means at a place of the endless row, by the words of the document. Later places are looked at up to so many ahead: more than there are letters, all of them were met.
func plainHolds(f api.Ltl, w api.Word, place int) bool {
	kid := func(i, place int) bool { return plainHolds(f.Kids[i], w, fold(w, place)) }
	end := place + len(w.Stem) + len(w.Loop)
	switch f.Kind {
	case 1:
		return true
	case 3:
		return plainRow(w, place+1)[place]&(1<<f.N) != 0
	case 4:
		return !kid(0, place)
	case 5:
		return kid(0, place) && kid(1, place)
	case 6:
		return kid(0, place) || kid(1, place)
	case 7:
		return kid(0, place+1)
	case 8:
		return slices.ContainsFunc(span(place, end), func(j int) bool {
			return kid(1, j) && !slices.ContainsFunc(span(place, j), func(k int) bool { return !kid(0, k) })
		})
	case 9:
		all := !slices.ContainsFunc(span(place, end), func(j int) bool { return !kid(1, j) })
		return all || slices.ContainsFunc(span(place, end), func(j int) bool {
			return kid(0, j) && !slices.ContainsFunc(span(place, j+1), func(k int) bool { return !kid(1, k) })
		})
	case 10:
		return slices.ContainsFunc(span(place, end), func(j int) bool { return kid(0, j) })
	case 11:
		return !slices.ContainsFunc(span(place, end), func(j int) bool { return !kid(0, j) })
	}
	return false
}

// span are the numbers from one to ahead of another.
func span(from, to int) []int {
	var list []int
	for i := from; i < to; i++ {
		list = append(list, i)
	}
	return list
}

// fold is the first place from which on the endless row is the same as from that one on, by its Stem and Loop as they stand.
func fold(w api.Word, place int) int {
	for place >= len(w.Stem)+len(w.Loop) {
		place -= len(w.Loop)
	}
	return place
}

// plainSame holds as many letters against each other as two words have ahead of where both begin again at once.
func plainSame(v, w api.Word) bool {
	count := max(len(v.Stem), len(w.Stem)) + len(v.Loop)*len(w.Loop)
	return slices.Equal(plainRow(v, count), plainRow(w, count))
}

// plainLeast tries all lengths of a Loop, and of a Stem with it, from the shortest on.
func plainLeast(w api.Word) api.Word {
	row := plainRow(w, 60+60*60)
	for loop := 1; loop <= 60; loop++ {
		for stem := 0; stem+loop <= 60; stem++ {
			if slices.Equal(row[stem:len(row)-loop], row[stem+loop:]) {
				return word(row[:stem], row[stem:stem+loop])
			}
		}
	}
	return w
}

// formulas are all formulas of so many nodes with those leaves.
func formulas(nodes int, leaves []api.Ltl) []api.Ltl {
	if nodes == 1 {
		return leaves
	}
	var list []api.Ltl
	for _, kid := range formulas(nodes-1, leaves) {
		list = append(list, of(4, kid), of(7, kid), of(10, kid), of(11, kid))
	}
	for first := 1; first < nodes-1; first++ {
		for _, a := range formulas(first, leaves) {
			for _, b := range formulas(nodes-1-first, leaves) {
				list = append(list, of(5, a, b), of(6, a, b), of(8, a, b), of(9, a, b))
			}
		}
	}
	return list
}

// words are all words of up to so many letters, those below a number.
func words(most int, below uint64) []api.Word {
	var list []api.Word
	rows := [][]uint64{{}}
	for size := 1; size <= most; size++ {
		var longer [][]uint64
		for _, row := range rows {
			for letter := range below {
				longer = append(longer, append(slices.Clone(row), letter))
			}
		}
		rows = longer
		for _, row := range rows {
			for stem := range size {
				list = append(list, word(row[:stem], row[stem:]))
			}
		}
	}
	return list
}

// agree holds Holds against the plain reckoning.
func agree(t *testing.T, f api.Ltl, w api.Word) {
	t.Helper()
	list, e := Holds(f, w)
	if e != api.OK || len(list) != len(w.Stem)+len(w.Loop) {
		t.Fatal(f, w, list, e)
	}
	for place, is := range list {
		if is != plainHolds(f, w, place) {
			t.Fatal(f, w, place, is)
		}
	}
}

func TestHoldsSmall(t *testing.T) {
	leaves := []api.Ltl{of(1), of(2), atom(0), atom(1)}
	for nodes := 1; nodes <= 4; nodes++ {
		for _, f := range formulas(nodes, leaves) {
			for _, w := range words(5-nodes/2, 4) {
				agree(t, f, w)
			}
		}
	}
	for _, f := range formulas(5, leaves[2:]) {
		for _, w := range words(2, 4) {
			agree(t, f, w)
		}
	}
}

// drawnFormula is a formula that is up to so deep.
func drawnFormula(r *rand.Rand, deep int) api.Ltl {
	kind := 1 + r.Intn(11)
	if deep == 1 {
		kind = []int{1, 2, 3, 3, 3, 3, 3}[r.Intn(7)]
	}
	switch kind {
	case 3:
		return atom([]int{0, 1, 2, 63}[r.Intn(4)])
	case 4, 7, 10, 11:
		return of(kind, drawnFormula(r, deep-1))
	case 5, 6, 8, 9:
		return of(kind, drawnFormula(r, deep-1), drawnFormula(r, deep-1))
	}
	return of(kind)
}

// drawnWord is a word of up to so many letters; few of them differ, if few is small.
func drawnWord(r *rand.Rand, most, few int) api.Word {
	size := 1 + r.Intn(most)
	row := make([]uint64, size)
	for i := range row {
		letter := uint64(r.Intn(few))
		row[i] = letter&7 | letter>>3<<63
	}
	stem := r.Intn(size)
	return word(row[:stem], row[stem:])
}

func TestHoldsDrawn(t *testing.T) {
	r := rand.New(rand.NewSource(8))
	for range 20000 {
		agree(t, drawnFormula(r, 4), drawnWord(r, 7, 1+r.Intn(16)))
	}
	for range 300 {
		agree(t, drawnFormula(r, 3), drawnWord(r, 60, 16))
	}
}

func TestLeastSmall(t *testing.T) {
	list := append(words(8, 2), words(6, 3)...)
	for _, w := range list {
		if got, e := Least(w); e != api.OK || !equal(got, plainLeast(w)) {
			t.Fatal(w, got, e)
		}
	}
}

// again is a word with the same letters at all places, written longer.
func again(r *rand.Rand, w api.Word) api.Word {
	loop := len(w.Loop) * (1 + r.Intn((60-len(w.Stem))/len(w.Loop)))
	stem := len(w.Stem) + r.Intn(61-len(w.Stem)-loop)
	row := plainRow(w, stem+loop)
	return word(row[:stem], row[stem:])
}

func TestLeastDrawn(t *testing.T) {
	r := rand.New(rand.NewSource(21))
	for range 2000 {
		w := drawnWord(r, 1+r.Intn(60), 1+r.Intn(3))
		v := again(r, w)
		got, e := Least(w)
		if e != api.OK || !equal(got, plainLeast(w)) {
			t.Fatal(w, got, e)
		}
		if also, e := Least(v); e != api.OK || !equal(also, got) {
			t.Fatal(v, also, e)
		}
		if is, e := Same(v, w); e != api.OK || !is {
			t.Fatal(v, w, is, e)
		}
	}
}

func TestSameSmall(t *testing.T) {
	list := append(words(5, 2), words(3, 3)...)
	for _, v := range list {
		for _, w := range list {
			if is, e := Same(v, w); e != api.OK || is != plainSame(v, w) {
				t.Fatal(v, w, is, e)
			}
		}
	}
}

// One letter of a longer form is another one.
func TestSameDrawn(t *testing.T) {
	r := rand.New(rand.NewSource(22))
	for range 2000 {
		w := drawnWord(r, 1+r.Intn(60), 1+r.Intn(3))
		v := again(r, w)
		if i := r.Intn(len(v.Stem) + len(v.Loop)); i < len(v.Stem) {
			v.Stem[i] ^= 1 << r.Intn(64)
		} else {
			v.Loop[i-len(v.Stem)] ^= 1 << r.Intn(64)
		}
		if is, e := Same(v, w); e != api.OK || is {
			t.Fatal(v, w, is, e)
		}
	}
}

// What a formula says at a place hangs on the letters from there on alone, however the word is written.
func TestHoldsOfSameWords(t *testing.T) {
	r := rand.New(rand.NewSource(20))
	for range 3000 {
		f, w := drawnFormula(r, 4), drawnWord(r, 30, 4)
		v := again(r, w)
		a, e := Holds(f, w)
		b, e2 := Holds(f, v)
		if e != api.OK || e2 != api.OK {
			t.Fatal(e, e2)
		}
		for place := range 60 {
			if a[fold(w, place)] != b[fold(v, place)] {
				t.Fatal(f, v, w, place)
			}
		}
	}
}
