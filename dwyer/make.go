package dwyer

import (
	"watchway/api"
	"watchway/ltl"
)

// Make answers a formula that holds at place 0 of just the words that keep to a pattern.
func Make(p api.Pattern) (api.Ltl, api.Errno) {
	if e := Check(p); e != api.OK {
		return api.Ltl{}, e
	}
	f := scoped(p)()
	if e := ltl.Check(f); e != api.OK {
		return api.Ltl{}, e
	}
	return f, api.OK
}

// maker makes a formula, each time anew: a part that stands twice in a form is made twice, and shares no memory with itself.
type maker func() api.Ltl

// pair makes a formula of two.
type pair func(a, b maker) maker

func atom(n int) maker {
	return func() api.Ltl { return api.Ltl{Kind: api.LAtom, N: n} }
}

func of(kind int, kids ...maker) maker {
	return func() api.Ltl {
		f := api.Ltl{Kind: kind, Kids: make([]api.Ltl, len(kids))}
		for i, kid := range kids {
			f.Kids[i] = kid()
		}
		return f
	}
}

func not(a maker) maker      { return of(api.LNot, a) }
func and(a, b maker) maker   { return of(api.LAnd, a, b) }
func or(a, b maker) maker    { return of(api.LOr, a, b) }
func next(a maker) maker     { return of(api.LNext, a) }
func finally(a maker) maker  { return of(api.LFinally, a) }
func globally(a maker) maker { return of(api.LGlobally, a) }
func until(a, b maker) maker { return of(api.LUntil, a, b) }

// unless is until, or for ever.
func unless(a, b maker) maker { return or(until(a, b), globally(a)) }

// scoped lays the form of a Kind into a Scope.
func scoped(p api.Pattern) maker {
	q, r := atom(p.Q), atom(p.R)
	switch p.Scope {
	case api.SBefore:
		return or(not(finally(r)), upTo(p, until))
	case api.SAfter:
		return or(globally(not(q)), until(not(q), and(q, global(p))))
	case api.SBetween:
		return globally(or(not(and(and(q, not(r)), finally(r))), upTo(p, until)))
	case api.SUntil:
		return globally(or(not(and(q, not(r))), upTo(p, unless)))
	}
	return global(p)
}

// global is the form of a Kind from here on for ever.
func global(p api.Pattern) maker {
	what, answer := atom(p.P), atom(p.S)
	switch p.Kind {
	case api.PUniversal:
		return globally(what)
	case api.PExistence:
		return finally(what)
	case api.PBounded:
		return again(p.Count, globally(not(what)), func(rest maker) maker {
			return unless(not(what), and(what, next(rest)))
		})
	case api.PPrecedence:
		return unless(not(what), answer)
	case api.PResponse:
		return globally(or(not(what), finally(answer)))
	}
	return globally(not(what))
}

// upTo is the form of a Kind from here to ahead of the next R. Until the R its sign is reach, which tells whether the R must come; what must come ahead of the R is asked for by until alone.
func upTo(p api.Pattern, reach pair) maker {
	what, answer, r := atom(p.P), atom(p.S), atom(p.R)
	switch p.Kind {
	case api.PUniversal:
		return reach(what, r)
	case api.PExistence:
		return until(not(r), and(what, not(r)))
	case api.PBounded:
		return again(p.Count, reach(not(what), r), func(rest maker) maker {
			return reach(not(what), or(r, and(and(what, not(r)), next(rest))))
		})
	case api.PPrecedence:
		return reach(not(what), or(answer, r))
	case api.PResponse:
		return reach(or(not(what), until(not(r), and(answer, not(r)))), r)
	}
	return reach(not(what), r)
}

// again puts a step around a form so many times.
func again(count int, form maker, step func(rest maker) maker) maker {
	for range count {
		form = step(form)
	}
	return form
}
