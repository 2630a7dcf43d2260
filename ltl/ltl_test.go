package ltl

import (
	"math"
	"slices"
	"testing"

	"watchway/api"
)

// atom is a short way to write an LAtom.
func atom(n int) api.Ltl { return api.Ltl{Kind: api.LAtom, N: n} }

// of is a short way to write a formula with Kids.
func of(kind int, kids ...api.Ltl) api.Ltl { return api.Ltl{Kind: kind, Kids: kids} }

// nots is a formula with that many LNots around an LAtom.
func nots(count int) api.Ltl {
	f := atom(0)
	for range count {
		f = of(api.LNot, f)
	}
	return f
}

// full is a tree of LAnds that has 2^deep - 1 nodes.
func full(deep int) api.Ltl {
	if deep == 1 {
		return atom(1)
	}
	return of(api.LAnd, full(deep-1), full(deep-1))
}

// sized is a formula of that many nodes, from 34 to 62, not very deep.
func sized(nodes int) api.Ltl {
	f := full(5)
	g := nots(nodes - 33)
	if nodes >= 50 {
		g = of(api.LOr, full(4), nots(nodes-49))
	}
	return of(api.LOr, f, g)
}

// count is how many nodes a formula has.
func count(f api.Ltl) int {
	nodes := 1
	for _, kid := range f.Kids {
		nodes += count(kid)
	}
	return nodes
}

// equal tells whether two formulas are the same part by part.
func equal(f, g api.Ltl) bool {
	return f.Kind == g.Kind && f.N == g.N && slices.EqualFunc(f.Kids, g.Kids, equal)
}

// isZero tells whether a formula is the zero value.
func isZero(f api.Ltl) bool { return f.Kind == 0 && f.N == 0 && f.Kids == nil }

// kidsOf is what the document says of each Kind.
func kidsOf(kind int) int {
	switch kind {
	case 4, 7, 10, 11:
		return 1
	case 5, 6, 8, 9:
		return 2
	}
	return 0
}

func TestCheckKidsOfKinds(t *testing.T) {
	for kind := 1; kind <= 11; kind++ {
		for kids := range 5 {
			f := api.Ltl{Kind: kind}
			for range kids {
				f.Kids = append(f.Kids, of(api.LTrue))
			}
			want := api.ErrArg
			if kids == kidsOf(kind) {
				want = api.OK
			}
			if e := Check(f); e != want {
				t.Error("kind", kind, "kids", kids, ":", e)
			}
			if e := Check(of(api.LNext, f)); e != want {
				t.Error("within: kind", kind, "kids", kids, ":", e)
			}
		}
	}
}

func TestCheckEmptyKids(t *testing.T) {
	f := api.Ltl{Kind: api.LTrue, Kids: []api.Ltl{}}
	if e := Check(of(api.LNot, f)); e != api.OK {
		t.Error(e)
	}
}

func TestCheckKind(t *testing.T) {
	for _, kind := range []int{math.MinInt, -1, 0, 12, 13, 63, 256 + api.LTrue, math.MaxInt} {
		for kids := range 3 {
			f := api.Ltl{Kind: kind, Kids: make([]api.Ltl, kids)}
			if e := Check(f); e != api.ErrArg {
				t.Error(kind, kids, e)
			}
		}
	}
	if e := Check(api.Ltl{}); e != api.ErrArg {
		t.Error("nothing:", e)
	}
}

func TestCheckN(t *testing.T) {
	for n := range 64 {
		if e := Check(atom(n)); e != api.OK {
			t.Error(n, e)
		}
	}
	for _, n := range []int{math.MinInt, -64, -1, 64, 65, 127, math.MaxInt} {
		if e := Check(atom(n)); e != api.ErrArg {
			t.Error(n, e)
		}
	}
	for kind := 1; kind <= 11; kind++ {
		if kind == api.LAtom {
			continue
		}
		for _, n := range []int{math.MinInt, -1, 1, 63, math.MaxInt} {
			f := api.Ltl{Kind: kind, N: n, Kids: []api.Ltl{atom(0), atom(0)}[:kidsOf(kind)]}
			if e := Check(f); e != api.ErrArg {
				t.Error("kind", kind, "N", n, e)
			}
		}
	}
}

func TestCheckSize(t *testing.T) {
	for nodes := 34; nodes <= 62; nodes++ {
		f := sized(nodes)
		if count(f) != nodes {
			t.Fatal(nodes, count(f))
		}
		want := api.OK
		if nodes > 60 {
			want = api.ErrLarge
		}
		if e := Check(f); e != want {
			t.Error(nodes, e)
		}
	}
	if e := Check(full(7)); e != api.ErrLarge {
		t.Error(e)
	}
}

func TestCheckDeep(t *testing.T) {
	for deep := 1; deep <= 30; deep++ {
		want := api.OK
		if deep > 20 {
			want = api.ErrDeep
		}
		if e := Check(nots(deep - 1)); e != want {
			t.Error(deep, e)
		}
	}
	for _, f := range []api.Ltl{of(api.LUntil, atom(0), nots(18)), of(api.LUntil, nots(18), atom(0))} {
		if e := Check(f); e != api.OK {
			t.Error(e)
		}
		if e := Check(of(api.LNext, f)); e != api.ErrDeep {
			t.Error(e)
		}
	}
}

// Lists of Kids that lead back to themselves have an end, too.
func TestCheckRound(t *testing.T) {
	one := make([]api.Ltl, 1)
	one[0] = of(api.LNot, one...)
	if e := Check(one[0]); e != api.ErrDeep {
		t.Error(e)
	}
	two := make([]api.Ltl, 2)
	two[0], two[1] = atom(0), of(api.LOr, two...)
	if e := Check(two[1]); e != api.ErrDeep {
		t.Error(e)
	}
	// One list for all parts of a row, which doubles with each: 2^19 nodes and more.
	f := atom(0)
	for range 19 {
		f = of(api.LAnd, f, f)
	}
	if e := Check(f); e != api.ErrLarge {
		t.Error(e)
	}
}

func TestCheckManyKids(t *testing.T) {
	if e := Check(api.Ltl{Kind: api.LAnd, Kids: make([]api.Ltl, 1<<20)}); e != api.ErrArg {
		t.Error(e)
	}
}

// What is wrong at the first node is told, and there what is told first.
func TestCheckOrder(t *testing.T) {
	bad := atom(64)
	endsWith := func(nodes int, last api.Ltl) api.Ltl { return of(api.LUntil, sized(nodes-2), last) }
	for _, c := range []struct {
		what string
		f    api.Ltl
		want api.Errno
	}{
		{"a node that is the 61st and has a bad N", endsWith(61, bad), api.ErrLarge},
		{"the 60th has a bad N", endsWith(60, bad), api.ErrArg},
		{"a bad N ahead of the 61st", of(api.LUntil, bad, full(6)), api.ErrArg},
		{"the 61st ahead of a bad N", of(api.LUntil, full(6), bad), api.ErrLarge},
		{"a bad N ahead of a node that is too deep", of(api.LUntil, bad, nots(20)), api.ErrArg},
		{"a node that is too deep ahead of a bad N", of(api.LUntil, nots(20), bad), api.ErrDeep},
		{"a node that is too deep ahead of the 61st", of(api.LUntil, nots(20), full(6)), api.ErrDeep},
		{"the 61st ahead of a node that is too deep", of(api.LUntil, full(6), nots(20)), api.ErrLarge},
		{"a node that is too deep and the 61st", of(api.LAnd, full(5), of(api.LAnd, nots(8), nots(18))), api.ErrLarge},
		{"a node that is too deep and the 60th", of(api.LAnd, full(5), of(api.LAnd, nots(7), nots(18))), api.ErrDeep},
		{"a bad Kind, and a Kid with a bad N", of(12, bad), api.ErrArg},
		{"too many Kids ahead of one that is too deep", of(api.LNot, nots(25), nots(25)), api.ErrArg},
	} {
		if e := Check(c.f); e != c.want {
			t.Error(c.what, ":", e, "want", c.want)
		}
	}
	// A node that is too deep and has a bad N, too.
	f := bad
	for range 20 {
		f = of(api.LNext, f)
	}
	if e := Check(f); e != api.ErrDeep {
		t.Error(e)
	}
}

// Each of these is the same as itself, put together anew, and as none of the others.
func TestSame(t *testing.T) {
	formulas := func() []api.Ltl {
		list := []api.Ltl{of(api.LTrue), of(api.LFalse), atom(0), atom(1), atom(api.Silent), nots(2), nots(3), nots(19), full(3), full(5), sized(60)}
		for _, kind := range []int{api.LNot, api.LNext, api.LFinally, api.LGlobally} {
			list = append(list, of(kind, atom(0)), of(kind, atom(1)), of(kind, of(kind, atom(1))))
		}
		for _, kind := range []int{api.LAnd, api.LOr, api.LUntil, api.LRelease} {
			list = append(list, of(kind, atom(0), atom(0)), of(kind, atom(0), atom(1)), of(kind, atom(1), atom(0)))
			list = append(list, of(kind, of(kind, atom(0), atom(1)), atom(0)), of(kind, atom(0), of(kind, atom(1), atom(0))))
		}
		return list
	}
	again := formulas()
	for i, f := range formulas() {
		for j, g := range again {
			if Same(f, g) != (i == j) {
				t.Error(f, g, Same(f, g))
			}
		}
	}
	// Lists with nothing in them may be nil or empty.
	if !Same(atom(1), api.Ltl{Kind: api.LAtom, N: 1, Kids: []api.Ltl{}}) {
		t.Error("an empty list is none")
	}
}
