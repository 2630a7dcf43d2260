package push

import (
	"testing"

	"watchway/api"
)

// mark is what stands in the room behind lists; no answer has it.
const mark = -77

// roomy is a formula with marked room behind its lists of Kids, empty ones included.
func roomy(f api.Ltl) api.Ltl {
	kids := make([]api.Ltl, 0, len(f.Kids)+2)
	for _, kid := range f.Kids {
		kids = append(kids, roomy(kid))
	}
	f.Kids = append(kids, atom(mark), atom(mark))[:len(kids)]
	return f
}

// whole is a formula with the room behind its lists made a part of them.
func whole(f api.Ltl) api.Ltl {
	var kids []api.Ltl
	for _, kid := range f.Kids[:cap(f.Kids)] {
		kids = append(kids, whole(kid))
	}
	f.Kids = kids
	return f
}

// spoil overwrites all lists of a formula, room included.
func spoil(f api.Ltl) {
	for _, kid := range f.Kids {
		spoil(kid)
	}
	kids := f.Kids[:cap(f.Kids)]
	for i := range kids {
		kids[i] = atom(mark)
	}
}

// places hands over where the nodes in all lists of Kids lie, room included.
func places(f api.Ltl, do func(*api.Ltl)) {
	kids := f.Kids[:cap(f.Kids)]
	for i := range kids {
		do(&kids[i])
	}
	for _, kid := range f.Kids {
		places(kid, do)
	}
}

// handed are formulas of all sorts: all Kinds, with nots and without, what becomes slim and what doesn't, what is too large or wrong.
func handed(t *testing.T) []api.Ltl {
	list := wrong()[:20]
	for _, s := range []string{
		"a", "true", "false", "!a", "!!a", "!true", "F a", "F F a", "a & a", "X a / X a", "X a & true", "false / X a",
		"true U X a", "true U F X a", "false R G X a", "X a U X a", "X a R X a", "false U X a", "true R X a", "a U X true", "!!X a",
		"!((a U X !b) R (F a & G !b / true)) & !(c R X (silent / !false))",
	} {
		list = append(list, read(t, s))
	}
	forNots := of(api.LNot, of(api.LAnd, full(api.LAnd, 5, atom(1)), full(api.LOr, 4, atom(2))))
	forPlain := full(api.LUntil, 4, around(api.LGlobally, 3, atom(1)))
	return append(list, forNots, forPlain, forNots.Kids[0].Kids[0], around(api.LGlobally, 19, atom(0)))
}

func TestHandedInStays(t *testing.T) {
	for _, f := range handed(t) {
		given, want := roomy(f), whole(roomy(f))
		for name, do := range calls {
			do(given)
			if !equal(whole(given), want) {
				t.Error(name, f, given)
			}
		}
	}
}

// liesApart looks whether an answer shares memory with what was handed in, or one of its lists with another one.
func liesApart(t *testing.T, name string, given, answer api.Ltl) {
	t.Helper()
	lies := map[*api.Ltl]bool{}
	places(given, func(p *api.Ltl) { lies[p] = true })
	places(answer, func(p *api.Ltl) {
		if lies[p] {
			t.Error(name, given, answer, "shares memory")
		}
		lies[p] = true
	})
}

func TestAnswersLieApart(t *testing.T) {
	for _, f := range handed(t) {
		given := roomy(f)
		for name, do := range calls {
			g, e := do(given)
			if e == api.OK {
				liesApart(t, name, given, g)
			}
		}
	}
}

// What is handed in may have one list at several places.
func TestSharedKids(t *testing.T) {
	kid := roomy(of(api.LNot, of(api.LFinally, atom(0))))
	leaf := roomy(atom(1))
	for _, kind := range pairs {
		f := of(kind, of(api.LNext, kid), of(api.LOr, kid, leaf))
		f = of(kind, f, of(api.LAnd, leaf, of(kind, kid, f)))
		for name, do := range calls {
			g, e := do(f)
			if e != api.OK {
				t.Fatal(name, e)
			}
			liesApart(t, name, f, g)
		}
	}
}

// An answer that is spoilt, room included, alters no later one, and an error leaves nothing behind.
func TestNothingIsKept(t *testing.T) {
	for _, f := range handed(t) {
		for name, do := range calls {
			first, e := do(f)
			want := kidsDone(first, clone)
			spoil(first)
			for _, other := range wrong() {
				do(other)
			}
			if again, e2 := do(f); e2 != e || !equal(again, want) {
				t.Error(name, f, again, e2)
			}
		}
	}
}

// clone is a copy of a formula.
func clone(f api.Ltl) api.Ltl { return kidsDone(f, clone) }
