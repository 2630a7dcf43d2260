package dwyer

import (
	"math/rand"
	"slices"
	"testing"

	"watchway/api"
	"watchway/auto"
	"watchway/lasso"
	"watchway/ltl"
	"watchway/tableau"
)

// plainSpan is an interval written down: its letters; of one for ever as many as tell all, and how many of these have all of the Loop behind them.
type plainSpan struct {
	letters []uint64
	sure    int
}

// plainSpans are the intervals that a Scope tells, in the row of a word that is written down five rounds beyond where all has begun anew.
func plainSpans(p api.Pattern, w api.Word) []plainSpan {
	row := slices.Clone(w.Stem)
	for len(row) < len(w.Stem)+6*len(w.Loop) {
		row = append(row, w.Loop...)
	}
	has := func(place, atom int) bool { return row[place]&(1<<atom) != 0 }
	forEver := func(from int) plainSpan { return plainSpan{row[from:], len(row) - len(w.Loop) - from} }
	ahead := func(from, to int) plainSpan { return plainSpan{row[from:to], to - from} }
	nextR := func(from int) int {
		for from < len(row) && !has(from, p.R) {
			from++
		}
		return from
	}
	var list []plainSpan
	switch p.Scope {
	case 1:
		list = append(list, forEver(0))
	case 2:
		if r := nextR(0); r < len(row) {
			list = append(list, ahead(0, r))
		}
	case 3:
		for place := range row {
			if has(place, p.Q) {
				return []plainSpan{forEver(place)}
			}
		}
	case 4, 5:
		for place := range len(w.Stem) + len(w.Loop) {
			if !has(place, p.Q) || has(place, p.R) {
				continue
			}
			if r := nextR(place); r < len(row) {
				list = append(list, ahead(place, r))
			} else if p.Scope == 5 {
				list = append(list, forEver(place))
			}
		}
	}
	return list
}

// plainMeans is Means by the words of the document.
func plainMeans(p api.Pattern, w api.Word) bool {
	return !slices.ContainsFunc(plainSpans(p, w), func(s plainSpan) bool { return !plainKeeps(p, s) })
}

func plainKeeps(p api.Pattern, s plainSpan) bool {
	count := func(letters []uint64, atom int) int {
		n := 0
		for _, letter := range letters {
			if letter&(1<<atom) != 0 {
				n++
			}
		}
		return n
	}
	switch p.Kind {
	case 1:
		return count(s.letters, p.P) == 0
	case 2:
		return count(s.letters, p.P) == len(s.letters)
	case 3:
		return count(s.letters, p.P) >= 1
	case 4:
		return count(s.letters, p.P) <= p.Count
	}
	for i, letter := range s.letters[:s.sure] {
		part := s.letters[:i+1]
		if p.Kind == 6 {
			part = s.letters[i:]
		}
		if letter&(1<<p.P) != 0 && count(part, p.S) == 0 {
			return false
		}
	}
	return true
}

// eachWord hands over all words of that many letters in all, of those letters.
func eachWord(size int, letters []uint64, do func(api.Word)) {
	row := make([]uint64, size)
	var lay func(int)
	lay = func(place int) {
		if place == size {
			for stem := range size {
				do(api.Word{Stem: row[:stem], Loop: row[stem:]})
			}
			return
		}
		for _, letter := range letters {
			row[place] = letter
			lay(place + 1)
		}
	}
	lay(0)
}

// subsets are all letters of these atoms.
func subsets(atoms []int) []uint64 {
	list := []uint64{0}
	for _, atom := range atoms {
		for _, letter := range slices.Clone(list) {
			if letter&(1<<atom) == 0 {
				list = append(list, letter|1<<atom)
			}
		}
	}
	return list
}

// atomsOf are the atoms that a pattern has.
func atomsOf(p api.Pattern) []int {
	list := []int{p.P}
	if testHasS(p.Kind) {
		list = append(list, p.S)
	}
	if testHasQ(p.Scope) {
		list = append(list, p.Q)
	}
	if testHasR(p.Scope) {
		list = append(list, p.R)
	}
	return list
}

// judge holds Means of a word against the plain reckoning, and, if the pattern has a formula, against where that holds.
func judge(t *testing.T, p api.Pattern, f api.Ltl, w api.Word) bool {
	want := plainMeans(p, w)
	if is, e := Means(p, w); is != want || e != api.OK {
		t.Error(p, w, is, e, "want", want)
	}
	if f.Kind == 0 {
		return want
	}
	if list, e := lasso.Holds(f, w); e != api.OK || list[0] != want {
		t.Error(p, w, "the formula:", list, e, "want", want)
	}
	return want
}

// sizeOf is how long words are tried, by how many letters there are.
func sizeOf(letters int) int {
	switch letters {
	case 2:
		return 8
	case 4:
		return 5
	case 8:
		return 4
	}
	return 3
}

func TestAllSmallWords(t *testing.T) {
	for _, p := range patterns(atomP, atomS, atomQ, atomR) {
		t.Run("", func(t *testing.T) {
			t.Parallel()
			f, _ := Make(p)
			kept, broken := 0, 0
			all := subsets(atomsOf(p))
			for size := 1; size <= sizeOf(len(all)); size++ {
				eachWord(size, all, func(w api.Word) {
					if judge(t, p, f, w) {
						kept++
					} else {
						broken++
					}
				})
			}
			if kept == 0 || broken == 0 && p.Count < 2 {
				t.Error(p, kept, broken)
			}
		})
	}
}

// The atoms of a pattern may be the same: all choices of two atoms.
func TestAllSmallWordsOfTwoAtoms(t *testing.T) {
	for choice := range 16 {
		t.Run("", func(t *testing.T) {
			t.Parallel()
			for _, p := range patterns(choice&1, choice>>1&1, choice>>2&1, choice>>3&1) {
				if (choice == 0) != (p.P+p.S+p.Q+p.R == 0) {
					continue
				}
				f, _ := Make(p)
				for size := 1; size <= 4; size++ {
					eachWord(size, subsets([]int{0, 1}), func(w api.Word) { judge(t, p, f, w) })
				}
			}
		})
	}
}

// Few counts are broken by words as short as those; here each Count is met on both sides.
func TestAllSmallWordsOfCounts(t *testing.T) {
	for scope := 1; scope <= 5; scope++ {
		for count := range 4 {
			t.Run("", func(t *testing.T) {
				t.Parallel()
				p := counted(count, scope, atomP, atomQ, atomR)
				f, _ := Make(p)
				kept, broken := 0, 0
				for size := 1; size <= 7; size++ {
					eachWord(size, []uint64{1 << atomP, 1<<atomP | 1<<atomQ, 1 << atomR}, func(w api.Word) {
						if judge(t, p, f, w) {
							kept++
						} else {
							broken++
						}
					})
				}
				if kept == 0 && scope != api.SGlobal || broken == 0 {
					t.Error(p, kept, broken)
				}
			})
		}
	}
}

// drawWord is a word of these atoms; each is there at one of so many letters.
func drawWord(draw *rand.Rand, atoms []int) api.Word {
	size := 1 + draw.Intn(api.MaxWord)
	stem := draw.Intn(size)
	rare := make([]int, len(atoms))
	for i := range rare {
		rare[i] = 1 + draw.Intn(1+draw.Intn(20))
	}
	row := make([]uint64, size)
	for place := range row {
		for i, atom := range atoms {
			if draw.Intn(rare[i]) == 0 {
				row[place] |= 1 << atom
			} else {
				row[place] &^= 1 << atom
			}
		}
	}
	return api.Word{Stem: row[:stem:stem], Loop: row[stem:]}
}

func TestDrawnWords(t *testing.T) {
	for seed := range 8 {
		t.Run("", func(t *testing.T) {
			t.Parallel()
			draw := rand.New(rand.NewSource(int64(seed)))
			for range 150 {
				for _, p := range patterns(draw.Intn(64), draw.Intn(64), draw.Intn(64), draw.Intn(64)) {
					f, _ := Make(p)
					judge(t, p, f, drawWord(draw, atomsOf(p)))
				}
			}
		})
	}
}

// The same row of letters, written with a longer Stem and Loop or as short as can be, keeps to the same patterns.
func TestOtherFormsOfAWord(t *testing.T) {
	draw := rand.New(rand.NewSource(31))
	for range 400 {
		for _, p := range patterns(0, 1, 2, 3) {
			w := drawWord(draw, atomsOf(p))
			longer := api.Word{Stem: slices.Concat(w.Stem, w.Loop), Loop: slices.Concat(w.Loop, w.Loop)}
			turned := api.Word{Stem: slices.Concat(w.Stem, w.Loop[:1]), Loop: slices.Concat(w.Loop[1:], w.Loop[:1])}
			least, _ := lasso.Least(w)
			want, _ := Means(p, w)
			for _, v := range []api.Word{longer, turned, least} {
				if lasso.Check(v) != api.OK {
					continue
				}
				if is, e := Means(p, v); is != want || e != api.OK {
					t.Error(p, w, v, is, e)
				}
			}
		}
	}
}

// Atoms that a pattern hasn't tell nothing, and by which numbers it has its own doesn't either.
func TestOtherAtoms(t *testing.T) {
	draw := rand.New(rand.NewSource(37))
	for range 200 {
		places := draw.Perm(64)
		others := patterns(places[0], places[1], places[2], places[3])
		for i, p := range patterns(0, 1, 2, 3) {
			w := drawWord(draw, []int{0, 1, 2, 3})
			moved := func(list []uint64) []uint64 {
				var to []uint64
				for _, letter := range list {
					far := draw.Uint64()
					for atom := range 4 {
						far = far&^(1<<places[atom]) | letter>>atom&1<<places[atom]
					}
					to = append(to, far)
				}
				return to
			}
			v := api.Word{Stem: moved(w.Stem), Loop: moved(w.Loop)}
			want, _ := Means(p, w)
			if is, e := Means(others[i], v); is != want || e != api.OK {
				t.Error(p, w, others[i], v, is, e)
			}
		}
	}
}

// The automaton of a pattern's formula, if it has one, accepts just the words that keep to it.
func TestAutomata(t *testing.T) {
	draw := rand.New(rand.NewSource(41))
	tried := 0
	for _, p := range patterns(0, 1, 2, 3) {
		f, e := Make(p)
		a, e2 := tableau.Make(f)
		if e != api.OK || e2 != api.OK || len(a.Next) > 256 {
			continue
		}
		tried++
		for range 40 {
			w := drawWord(draw, atomsOf(p))
			want, _ := Means(p, w)
			if is, e := auto.Accepts(a, w); is != want || e != api.OK {
				t.Error(p, w, is, e)
			}
		}
	}
	if tried < 20 {
		t.Error(tried)
	}
}

// A formula that Make answers is one, whatever the atoms.
func TestMadeIsChecked(t *testing.T) {
	for atom := range 64 {
		for _, p := range patterns(atom, 63-atom, atom^21, atom^42) {
			f, e := Make(p)
			if tooDeep := p.Count == 3 && p.Scope == api.SUntil; tooDeep != (e == api.ErrDeep) || !tooDeep && ltl.Check(f) != api.OK {
				t.Error(p, e)
			}
		}
	}
}
