package push

import (
	"watchway/api"
	"watchway/ltl"
)

// slim is a formula without what tells nothing, from the inside on.
func slim(f api.Ltl) api.Ltl {
	return slimPart(withKids(f, slim))
}

// slimPart is what a part becomes whose Kids are slim already.
func slimPart(f api.Ltl) api.Ltl {
	switch f.Kind {
	case api.LNot:
		return slimNot(f)
	case api.LAnd:
		return slimPair(f, api.LFalse, api.LTrue)
	case api.LOr:
		return slimPair(f, api.LTrue, api.LFalse)
	case api.LNext, api.LFinally, api.LGlobally:
		return slimSingle(f)
	case api.LUntil:
		return slimWay(f, api.LFalse, api.LTrue, api.LFinally)
	case api.LRelease:
		return slimWay(f, api.LTrue, api.LFalse, api.LGlobally)
	}
	return f
}

// slimNot is slimPart of an LNot.
func slimNot(f api.Ltl) api.Ltl {
	kid := f.Kids[0]
	switch kid.Kind {
	case api.LTrue, api.LFalse:
		return part(opposites[kid.Kind])
	case api.LNot:
		return kid.Kids[0]
	}
	return f
}

// slimPair is slimPart of an LAnd or LOr: one Kind decides it, one tells nothing in it.
func slimPair(f api.Ltl, decides, nothing int) api.Ltl {
	a, b := f.Kids[0], f.Kids[1]
	switch {
	case a.Kind == decides || b.Kind == decides:
		return part(decides)
	case a.Kind == nothing:
		return b
	case b.Kind == nothing || ltl.Same(a, b):
		return a
	}
	return f
}

// slimSingle is slimPart of an LNext, LFinally or LGlobally.
func slimSingle(f api.Ltl) api.Ltl {
	kid := f.Kids[0]
	// An LNext of an LNext looks one place further, the others are the same twice.
	if isFixed(kid) || kid.Kind == f.Kind && f.Kind != api.LNext {
		return kid
	}
	return f
}

// slimWay is slimPart of an LUntil or LRelease: if its first Kid is of one Kind, it is its second Kid, if of the other one, that single of it.
func slimWay(f api.Ltl, forSecond, forSingle, single int) api.Ltl {
	a, b := f.Kids[0], f.Kids[1]
	switch {
	case isFixed(b) || a.Kind == forSecond:
		return b
	case a.Kind == forSingle:
		return slimPart(part(single, b))
	case ltl.Same(a, b):
		return a
	}
	return f
}

// isFixed tells whether a formula is LTrue or LFalse.
func isFixed(f api.Ltl) bool {
	return f.Kind == api.LTrue || f.Kind == api.LFalse
}
