package dwyer

import (
	"math"
	"strings"
	"testing"

	"watchway/api"
	"watchway/ltl"
)

// boundedText is B(n) of the document's table: zero is B(0), step the form with B(n-1) written as B.
func boundedText(count int, zero, step string) string {
	text := zero
	for range count {
		text = strings.ReplaceAll(step, "B", "("+text+")")
	}
	return text
}

// globalText is the GLOBAL form of the document's table.
func globalText(p api.Pattern) string {
	switch p.Kind {
	case 1:
		return "G !p"
	case 2:
		return "G p"
	case 3:
		return "F p"
	case 4:
		return boundedText(p.Count, "G !p", "(!p U (p & X B)) / G !p")
	case 5:
		return "(!p U s) / G !p"
	}
	return "G (!p / F s)"
}

// upToText is the form UP TO R.
func upToText(p api.Pattern) string {
	switch p.Kind {
	case 1:
		return "!p U r"
	case 2:
		return "p U r"
	case 3:
		return "!r U (p & !r)"
	case 4:
		return boundedText(p.Count, "!p U r", "!p U (r / p & !r & X B)")
	case 5:
		return "!p U (s / r)"
	}
	return "(!p / !r U (s & !r)) U r"
}

// orEverText is the form UP TO R, where its outermost U needn't end.
func orEverText(p api.Pattern) string {
	switch p.Kind {
	case 1:
		return "!p U r / G !p"
	case 2:
		return "p U r / G p"
	case 3:
		return "!r U (p & !r)"
	case 4:
		return boundedText(p.Count, "!p U r / G !p", "!p U (r / p & !r & X B) / G !p")
	case 5:
		return "!p U (s / r) / G !p"
	}
	return "((!p / !r U (s & !r)) U r) / G (!p / !r U (s & !r))"
}

// tableText is the whole formula, as the document lays the forms into the Scopes.
func tableText(p api.Pattern) string {
	switch p.Scope {
	case 1:
		return globalText(p)
	case 2:
		return "!F r / (" + upToText(p) + ")"
	case 3:
		return "G !q / !q U (q & (" + globalText(p) + "))"
	case 4:
		return "G (!(q & !r & F r) / (" + upToText(p) + "))"
	}
	return "G (!(q & !r) / (" + orEverText(p) + "))"
}

func TestMakeIsTheTable(t *testing.T) {
	made := 0
	for _, p := range patterns(atomP, atomS, atomQ, atomR) {
		want, at, wrong := ltl.Parse(tableText(p), names)
		f, e := Make(p)
		if e != wrong {
			t.Error(p, e, "the table's text:", wrong, at)
			continue
		}
		if e != api.OK {
			continue
		}
		made++
		if !ltl.Same(f, want) {
			got, _ := ltl.Print(f, names)
			text, _ := ltl.Print(want, names)
			t.Error(p, got, "want", text)
		}
	}
	if made != 44 {
		t.Error(made)
	}
}

// One pattern alone has a formula that is too deep.
func TestMakeTooDeep(t *testing.T) {
	f, e := Make(counted(3, api.SUntil, atomP, atomQ, atomR))
	if e != api.ErrDeep || f.Kind != 0 || f.N != 0 || f.Kids != nil {
		t.Error(f, e)
	}
}

func TestMakeByHand(t *testing.T) {
	for _, c := range []struct {
		p    api.Pattern
		want string
	}{
		{pattern(api.PAbsence, api.SGlobal, 0, 1, 2, 3), "G !p"},
		{pattern(api.PAbsence, api.SBefore, 0, 1, 2, 3), "!F r / (!p U r)"},
		{pattern(api.PAbsence, api.SAfter, 0, 1, 2, 3), "G !q / (!q U (q & G !p))"},
		{pattern(api.PAbsence, api.SBetween, 0, 1, 2, 3), "G (!(q & !r & F r) / (!p U r))"},
		{pattern(api.PAbsence, api.SUntil, 0, 1, 2, 3), "G (!(q & !r) / ((!p U r) / G !p))"},
		{pattern(api.PUniversal, api.SGlobal, 0, 1, 2, 3), "G p"},
		{pattern(api.PUniversal, api.SBefore, 0, 1, 2, 3), "!F r / (p U r)"},
		{pattern(api.PUniversal, api.SUntil, 0, 1, 2, 3), "G (!(q & !r) / ((p U r) / G p))"},
		{pattern(api.PExistence, api.SGlobal, 0, 1, 2, 3), "F p"},
		{pattern(api.PExistence, api.SBetween, 0, 1, 2, 3), "G (!(q & !r & F r) / (!r U (p & !r)))"},
		{pattern(api.PExistence, api.SUntil, 0, 1, 2, 3), "G (!(q & !r) / (!r U (p & !r)))"},
		{counted(0, api.SGlobal, 0, 2, 3), "G !p"},
		{counted(0, api.SUntil, 0, 2, 3), "G (!(q & !r) / ((!p U r) / G !p))"},
		{counted(2, api.SGlobal, 0, 2, 3), "(!p U (p & X ((!p U (p & X G !p)) / G !p))) / G !p"},
		{counted(1, api.SBetween, 0, 2, 3), "G (!(q & !r & F r) / (!p U (r / p & !r & X (!p U r))))"},
		{counted(1, api.SUntil, 0, 2, 3), "G (!(q & !r) / ((!p U (r / p & !r & X ((!p U r) / G !p))) / G !p))"},
		{pattern(api.PPrecedence, api.SGlobal, 0, 1, 2, 3), "(!p U s) / G !p"},
		{pattern(api.PPrecedence, api.SAfter, 0, 1, 2, 3), "G !q / (!q U (q & ((!p U s) / G !p)))"},
		{pattern(api.PPrecedence, api.SUntil, 0, 1, 2, 3), "G (!(q & !r) / ((!p U (s / r)) / G !p))"},
		{pattern(api.PResponse, api.SGlobal, 0, 1, 2, 3), "G (!p / F s)"},
		{pattern(api.PResponse, api.SBefore, 0, 1, 2, 3), "!F r / ((!p / (!r U (s & !r))) U r)"},
		{pattern(api.PResponse, api.SUntil, 0, 1, 2, 3), "G (!(q & !r) / (((!p / (!r U (s & !r))) U r) / G (!p / (!r U (s & !r)))))"},
		// Atoms that are the same stay where they stand.
		{pattern(api.PPrecedence, api.SBefore, 3, 3, 0, 3), "!F r / (!r U (r / r))"},
	} {
		f, e := Make(c.p)
		if text, _ := ltl.Print(f, names); e != api.OK || text != c.want {
			t.Error(c.p, text, e, "want", c.want)
		}
	}
}

func TestMakeGreatAtoms(t *testing.T) {
	f, e := Make(pattern(api.PPrecedence, api.SAfter, 63, 62, 61, 0))
	list := make([]string, 63)
	list[62], list[61] = "s", "q"
	if text, _ := ltl.Print(f, list); e != api.OK || text != "G !q / (!q U (q & ((!silent U s) / G !silent)))" {
		t.Error(text, e)
	}
}

func TestMakeErrors(t *testing.T) {
	for _, p := range []api.Pattern{
		{},
		{Kind: 7, Scope: 1},
		{Kind: 1, Scope: 6},
		{Kind: math.MaxInt, Scope: math.MinInt},
		pattern(api.PAbsence, api.SGlobal, 64, 0, 0, 0),
		pattern(api.PResponse, api.SGlobal, 0, -1, 0, 0),
		pattern(api.PResponse, api.SAfter, 0, 0, 64, 0),
		pattern(api.PResponse, api.SUntil, 0, 0, 0, 64),
		{Kind: api.PAbsence, Scope: api.SGlobal, Q: 1},
		counted(4, api.SGlobal, 0, 0, 0),
		counted(-1, api.SGlobal, 0, 0, 0),
		counted(math.MaxInt, api.SGlobal, 0, 0, 0),
		// What is wrong in the pattern is told ahead of a formula that would be too deep.
		counted(3, api.SUntil, 0, 0, 64),
		counted(4, api.SUntil, 0, 0, 0),
	} {
		if f, e := Make(p); e != api.ErrArg || f.Kind != 0 || f.N != 0 || f.Kids != nil {
			t.Error(p, f, e)
		}
	}
}
