package push

import (
	"math/rand"
	"slices"
	"testing"

	"watchway/api"
	"watchway/lasso"
	"watchway/ltl"
)

// The rules of the document, in its order, as texts: what is written at the left is what stands at the right; p and q are any parts.
var (
	notsRules = []string{
		"!!p", "p",
		"!true", "false", "!false", "true",
		"!(p & q)", "!p / !q", "!(p / q)", "!p & !q",
		"!(p U q)", "!p R !q", "!(p R q)", "!p U !q",
		"!X p", "X !p",
		"!F p", "G !p", "!G p", "F !p",
	}
	plainRules = []string{"F p", "true U p", "G p", "false R p"}
	slimRules  = []string{
		"!true", "false", "!false", "true", "!!p", "p",
		"false & p", "false", "p & false", "false", "true & p", "p", "p & true", "p", "p & p", "p",
		"true / p", "true", "p / true", "true", "false / p", "p", "p / false", "p", "p / p", "p",
		"X true", "true", "X false", "false",
		"F true", "true", "F false", "false", "F F p", "F p",
		"G true", "true", "G false", "false", "G G p", "G p",
		"p U true", "true", "p U false", "false", "false U p", "p", "true U p", "F p", "p U p", "p",
		"p R true", "true", "p R false", "false", "true R p", "p", "false R p", "G p", "p R p", "p",
	}
)

// rule is what stands for what, with atoms for parts.
type rule struct{ from, to api.Ltl }

// rules reads rules.
func rules(t *testing.T, texts []string) []rule {
	t.Helper()
	var list []rule
	for pair := range slices.Chunk(texts, 2) {
		from, at, e := ltl.Parse(pair[0], []string{"p", "q"})
		to, at2, e2 := ltl.Parse(pair[1], []string{"p", "q"})
		if e != api.OK || e2 != api.OK {
			t.Fatal(pair, at, e, at2, e2)
		}
		list = append(list, rule{from, to})
	}
	return list
}

// matches tells whether a formula is of that form, and notes which parts stand at its atoms.
func matches(form, f api.Ltl, parts map[int]api.Ltl) bool {
	if form.Kind == api.LAtom {
		known, is := parts[form.N]
		parts[form.N] = f
		return !is || equal(known, f)
	}
	if form.Kind != f.Kind {
		return false
	}
	for i := range form.Kids {
		if !matches(form.Kids[i], f.Kids[i], parts) {
			return false
		}
	}
	return true
}

// filled is a form with parts at its atoms.
func filled(form api.Ltl, parts map[int]api.Ltl) api.Ltl {
	if form.Kind == api.LAtom {
		return parts[form.N]
	}
	return kidsDone(form, func(kid api.Ltl) api.Ltl { return filled(kid, parts) })
}

// kidsDone is a formula with something done to its Kids.
func kidsDone(f api.Ltl, do func(api.Ltl) api.Ltl) api.Ltl {
	var kids []api.Ltl
	for _, kid := range f.Kids {
		kids = append(kids, do(kid))
	}
	return api.Ltl{Kind: f.Kind, N: f.N, Kids: kids}
}

// atTop is a formula by the first rule that applies to it as a whole, and again, till none does.
func atTop(list []rule, f api.Ltl) api.Ltl {
	for _, r := range list {
		if parts := map[int]api.Ltl{}; matches(r.from, f, parts) {
			return atTop(list, filled(r.to, parts))
		}
	}
	return f
}

// fromOutside does what the rules say from the outside on.
func fromOutside(list []rule, f api.Ltl) api.Ltl {
	return kidsDone(atTop(list, f), func(kid api.Ltl) api.Ltl { return fromOutside(list, kid) })
}

// fromInside does what the rules say from the inside on.
func fromInside(list []rule, f api.Ltl) api.Ltl {
	return atTop(list, kidsDone(f, func(kid api.Ltl) api.Ltl { return fromInside(list, kid) }))
}

// reckoning is a call, and what it is by the rules.
type reckoning struct {
	name  string
	do    call
	rules func(api.Ltl) api.Ltl
}

// reckonings are those of all calls.
func reckonings(t *testing.T) []reckoning {
	nots, plains, slims := rules(t, notsRules), rules(t, plainRules), rules(t, slimRules)
	return []reckoning{
		{"Nots", Nots, func(f api.Ltl) api.Ltl { return fromOutside(nots, f) }},
		{"Plain", Plain, func(f api.Ltl) api.Ltl { return fromOutside(plains, f) }},
		{"Slim", Slim, func(f api.Ltl) api.Ltl { return fromInside(slims, f) }},
	}
}

// agree holds a call against the rules, and answers what it answered.
func agree(t *testing.T, r reckoning, f api.Ltl) (api.Ltl, api.Errno) {
	t.Helper()
	g, e := r.do(f)
	want, wantE := api.Ltl{}, ltl.Check(f)
	if wantE == api.OK {
		want = r.rules(f)
		wantE = ltl.Check(want)
	}
	if wantE != api.OK {
		want = api.Ltl{}
	}
	if e != wantE || !equal(g, want) || e != api.OK && g.Kids != nil {
		t.Fatal(r.name, f, g, e, "want", want, wantE)
	}
	return g, e
}

// has tells whether a formula has a part of which something can be told.
func has(f api.Ltl, is func(api.Ltl) bool) bool {
	return is(f) || slices.ContainsFunc(f.Kids, func(kid api.Ltl) bool { return has(kid, is) })
}

// isStray tells whether a part is an LNot of what is no LAtom.
func isStray(f api.Ltl) bool { return f.Kind == api.LNot && f.Kids[0].Kind != api.LAtom }

// isSingle tells whether a part is an LFinally or LGlobally.
func isSingle(f api.Ltl) bool { return f.Kind == api.LFinally || f.Kind == api.LGlobally }

// looksRight holds an answer against what the document says of it as a whole.
func looksRight(t *testing.T, r reckoning, f, g api.Ltl) {
	t.Helper()
	switch {
	case r.name == "Nots" && has(g, isStray), r.name == "Plain" && has(g, isSingle),
		r.name == "Slim" && (count(g) > count(f) || deep(g) > deep(f)):
		t.Fatal(r.name, f, g)
	}
	if again, e := r.do(g); e != api.OK || !equal(again, g) {
		t.Fatal(r.name, "again", f, g, again, e)
	}
}

// meansSame looks whether two formulas hold at the same places of each word.
func meansSame(t *testing.T, f, g api.Ltl, words []api.Word) {
	t.Helper()
	for _, w := range words {
		a, e := lasso.Holds(f, w)
		b, e2 := lasso.Holds(g, w)
		if e != api.OK || e2 != api.OK || !slices.Equal(a, b) {
			t.Fatal(f, g, w, a, e, b, e2)
		}
	}
}

// eachFormula hands over all formulas of that many nodes, with those leaves.
func eachFormula(nodes int, leaves []api.Ltl, do func(api.Ltl)) {
	if nodes == 1 {
		for _, f := range leaves {
			do(f)
		}
		return
	}
	for _, kind := range []int{4, 7, 10, 11} {
		eachFormula(nodes-1, leaves, func(kid api.Ltl) { do(of(kind, kid)) })
	}
	for _, kind := range pairs {
		for first := 1; first < nodes-1; first++ {
			eachFormula(first, leaves, func(a api.Ltl) {
				eachFormula(nodes-1-first, leaves, func(b api.Ltl) { do(of(kind, a, b)) })
			})
		}
	}
}

// words are all words of that many letters, those below a number.
func words(size int, below uint64) []api.Word {
	rows := [][]uint64{{}}
	for range size {
		var longer [][]uint64
		for _, row := range rows {
			for letter := range below {
				longer = append(longer, append(slices.Clone(row), letter))
			}
		}
		rows = longer
	}
	var list []api.Word
	for _, row := range rows {
		for stem := range size {
			list = append(list, api.Word{Stem: row[:stem], Loop: row[stem:]})
		}
	}
	return list
}

func TestSmallFormulas(t *testing.T) {
	leaves := []api.Ltl{of(1), of(2), atom(0), atom(1)}
	short := append(words(2, 4), words(4, 2)...)
	for _, r := range reckonings(t) {
		for nodes := 1; nodes <= 6; nodes++ {
			eachFormula(nodes, leaves, func(f api.Ltl) {
				g, e := agree(t, r, f)
				if e != api.OK {
					t.Fatal(r.name, f, e)
				}
				looksRight(t, r, f, g)
				if nodes <= 4 {
					meansSame(t, f, g, short)
				}
			})
		}
	}
}

// drawn is a formula of so many nodes at most; few atoms make parts the same.
func drawn(r *rand.Rand, nodes, deep, atoms int) api.Ltl {
	kind := 4 + r.Intn(8)
	if nodes <= 2 || deep <= 1 {
		kind = []int{1, 2, 3, 3, 3, 3, 3, 3}[r.Intn(8)]
	}
	switch kind {
	case 1, 2:
		return of(kind)
	case 3:
		return atom([]int{0, 1, 2, 63}[r.Intn(atoms)])
	case 4, 7, 10, 11:
		return of(kind, drawn(r, nodes-1, deep-1, atoms))
	}
	first := 1 + r.Intn(nodes-2)
	a := drawn(r, first, deep-1, atoms)
	if r.Intn(10) == 0 && 2*count(a) < nodes {
		return of(kind, a, a)
	}
	return of(kind, a, drawn(r, nodes-1-first, deep-1, atoms))
}

// drawnWord is a word of up to so many letters.
func drawnWord(r *rand.Rand, most int) api.Word {
	row := make([]uint64, 1+r.Intn(most))
	for i := range row {
		letter := uint64(r.Intn(16))
		row[i] = letter&7 | letter>>3<<63
	}
	stem := r.Intn(len(row))
	return api.Word{Stem: row[:stem], Loop: row[stem:]}
}

func TestDrawnFormulas(t *testing.T) {
	r := rand.New(rand.NewSource(9))
	for _, c := range reckonings(t) {
		seen := map[api.Errno]int{}
		for range 20000 {
			f := drawn(r, 1+r.Intn(80), 4+r.Intn(20), 1+r.Intn(4))
			if r.Intn(2) == 0 {
				f = of(api.LNot, f)
			}
			g, e := agree(t, c, f)
			if ltl.Check(f) == api.OK {
				seen[e]++
			}
			if e == api.OK {
				looksRight(t, c, f, g)
				meansSame(t, f, g, []api.Word{drawnWord(r, 4), drawnWord(r, 20)})
			}
		}
		if seen[api.OK] < 500 || c.name != "Slim" && seen[api.ErrLarge] < 200 || len(seen) > 2 {
			t.Error(c.name, seen)
		}
	}
}

// Two roads: nots can be pushed ahead of making a formula plain, or behind it.
func TestNotsAndPlain(t *testing.T) {
	eachFormula(5, []api.Ltl{of(1), atom(0), atom(1)}, func(f api.Ltl) {
		a, e := Nots(f)
		a, e2 := Plain(a)
		b, e3 := Plain(f)
		b, e4 := Nots(b)
		if e != api.OK || e2 != api.OK || e3 != api.OK || e4 != api.OK || !equal(a, b) {
			t.Fatal(f, a, b)
		}
	})
}

// Of a formula and its not all nots can be pushed to the atoms, and the one is what the other is not.
func TestNotsOfNots(t *testing.T) {
	short := words(3, 4)
	eachFormula(4, []api.Ltl{of(2), atom(0), atom(1)}, func(f api.Ltl) {
		g, e := Nots(of(api.LNot, f))
		back, e2 := Nots(of(api.LNot, g))
		same, e3 := Nots(f)
		if e != api.OK || e2 != api.OK || e3 != api.OK || !equal(back, same) {
			t.Fatal(f, g, back)
		}
		for _, w := range short {
			a, _ := lasso.Holds(f, w)
			b, _ := lasso.Holds(g, w)
			for place := range a {
				if a[place] == b[place] {
					t.Fatal(f, g, w, place)
				}
			}
		}
	})
}
