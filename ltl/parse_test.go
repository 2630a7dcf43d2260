package ltl

import (
	"errors"
	"strings"
	"testing"

	"watchway/api"
)

// readsAs asks that a text is read as a formula.
func readsAs(t *testing.T, s string, want api.Ltl) {
	t.Helper()
	if f, at, e := Parse(s, abc); e != api.OK || at != 0 || !equal(f, want) {
		t.Errorf("%q: %v at %d, %v", s, e, at, f)
	}
}

// isWrong asks that a text is refused with that error at that byte.
func isWrong(t *testing.T, s string, wantAt int, want api.Errno) {
	t.Helper()
	if f, at, e := Parse(s, abc); e != want || at != wantAt || !isZero(f) {
		t.Errorf("%.80q: %v at %d, %v; want %v at %d", s, e, at, f, want, wantAt)
	}
}

func TestParseEachForm(t *testing.T) {
	a, b := atom(0), atom(1)
	for s, want := range map[string]api.Ltl{
		"true": of(api.LTrue), "false": of(api.LFalse), "a": a, "c": atom(2), "silent": atom(63),
		"!a": of(api.LNot, a), "Xa": of(api.LNext, a), "Fa": of(api.LFinally, a), "Ga": of(api.LGlobally, a),
		"(a)": a, "((a))": a,
		"a&b": of(api.LAnd, a, b), "a/b": of(api.LOr, a, b), "aUb": of(api.LUntil, a, b), "aRb": of(api.LRelease, a, b),
		"aWb": of(api.LRelease, b, of(api.LOr, a, b)), "a->b": of(api.LOr, of(api.LNot, a), b),
	} {
		readsAs(t, s, want)
	}
}

func TestParseWhatBindsMore(t *testing.T) {
	// What stands to the right is the same text with all of its brackets.
	for s, whole := range map[string]string{
		"a -> b -> c":      "(a -> (b -> c))",
		"a / b / c":        "((a / b) / c)",
		"a & b & c":        "((a & b) & c)",
		"a U b U c":        "(a U (b U c))",
		"a R b R c":        "(a R (b R c))",
		"a W b W c":        "(a W (b W c))",
		"a U b R c":        "(a U (b R c))",
		"a R b U c":        "(a R (b U c))",
		"a W b U c":        "(a W (b U c))",
		"a U b W c":        "(a U (b W c))",
		"a -> b / c":       "(a -> (b / c))",
		"a / b -> c":       "((a / b) -> c)",
		"a / b & c":        "(a / (b & c))",
		"a & b / c":        "((a & b) / c)",
		"a & b U c":        "(a & (b U c))",
		"a U b & c":        "((a U b) & c)",
		"a U b -> c":       "((a U b) -> c)",
		"a -> b U c":       "(a -> (b U c))",
		"!a U b":           "((!a) U b)",
		"X a U b":          "((X a) U b)",
		"F a & b":          "((F a) & b)",
		"G a / b":          "((G a) / b)",
		"a U !b U c":       "(a U ((!b) U c))",
		"! X F G a":        "(!(X (F (G a))))",
		"!(a U b)":         "(!((a U b)))",
		"a / b & c / a":    "((a / (b & c)) / a)",
		"a & b / c & a":    "((a & b) / (c & a))",
		"a->b&c->a":        "(a -> ((b & c) -> a))",
		"(a -> b) -> c":    "((a -> b) -> c)",
		"(a U b) U c":      "((a U b) U c)",
		"a W b & c -> aUb": "(((a W b) & c) -> (a U b))",
	} {
		f, at, e := Parse(s, abc)
		g, gAt, gE := Parse(whole, abc)
		if e != api.OK || gE != api.OK || !equal(f, g) {
			t.Errorf("%q: %v at %d, %v at %d", s, e, at, gE, gAt)
		}
	}
	a, b, c := atom(0), atom(1), atom(2)
	readsAs(t, "a -> b -> c", of(api.LOr, of(api.LNot, a), of(api.LOr, of(api.LNot, b), c)))
	readsAs(t, "a / b / c", of(api.LOr, of(api.LOr, a, b), c))
	readsAs(t, "a & b & c", of(api.LAnd, of(api.LAnd, a, b), c))
	readsAs(t, "a U b R c", of(api.LUntil, a, of(api.LRelease, b, c)))
	bc := of(api.LRelease, c, of(api.LOr, b, c))
	readsAs(t, "a W b W c", of(api.LRelease, bc, of(api.LOr, a, bc)))
	readsAs(t, "!X a", of(api.LNot, of(api.LNext, a)))
}

func TestParseBlanks(t *testing.T) {
	a, b := atom(0), atom(1)
	want := of(api.LOr, of(api.LNot, of(api.LNot, of(api.LNext, a))), of(api.LUntil, b, of(api.LTrue)))
	for _, s := range []string{"!Xa->bUtrue", "! X a -> b U true", "!   X a    ->b U   true", "((!(Xa))->((b)U(true)))", "( ( ! ( X a ) ) -> ( ( b ) U ( true ) ) )"} {
		readsAs(t, s, want)
	}
	readsAs(t, " a", a)
	readsAs(t, "a  ", a)
	readsAs(t, "  ( a )  ", a)
	for _, blank := range []string{"\t", "\n", "\r", "\v", "\x00", "\u00a0", "\x1f"} {
		isWrong(t, "a"+blank+"& b", 1, api.ErrSyntax)
		isWrong(t, "a &"+blank+"b", 3, api.ErrSyntax)
		isWrong(t, blank+"a", 0, api.ErrSyntax)
		isWrong(t, "a"+blank, 1, api.ErrSyntax)
	}
}

func TestParseEndsTooEarly(t *testing.T) {
	for _, s := range []string{"", " ", "   ", "(", "(a", "(a ", "((a)", "!", "X", "F", "G", "! ", "!!", "!(", "a &", "a & ", "a /", "a U", "a R", "a W", "a ->", "a -> ",
		"a & !", "(a & b", "(a -> ", "a U b U", "a -> b ->", "a U X", "(a &"} {
		isWrong(t, s, len(s), api.ErrSyntax)
	}
}

func TestParseWhatCannotStand(t *testing.T) {
	for s, at := range map[string]int{
		"a b": 2, "a true": 2, "a silent": 2, "true false": 5, "a (": 2, "a (b)": 2, "a !b": 2, "a X b": 2, "a F": 2, "a G b": 2,
		"(a b)": 3, "(a !": 3, "()": 1, "( )": 2, ")": 0, "a)": 1, "(a))": 3, "a & b)": 5, "((a) b)": 5, "(a) b": 4,
		"& a": 0, "/ a": 0, "U a": 0, "R a": 0, "W a": 0, "-> a": 0, "a & & b": 4, "a & / b": 4, "a U U b": 4, "a -> -> b": 5, "! & a": 2, "X U a": 2,
		"(& a)": 1, "(a &)": 4, "(a U )": 5, "!)": 1,
		"a -": 2, "a - b": 2, "a - > b": 2, "a-": 1, "-": 0, ">": 0, "a > b": 2, "a ->> b": 4, "a -->b": 2, "a -> - b": 5, "a->-": 3,
		"a && b": 3, "a // b": 3, "a | b": 2, "a ^ b": 2, "~a": 0, "a == b": 2, "a, b": 1, "[a]": 0, "a.": 1, "a'": 1, "a_": 1,
		"1": 0, "a1": 1, "a & 0": 4, "A": 0, "E F a": 0, "a & T": 4, "a V b": 2, "Aa": 0, "True": 0, "aB": 1, "a M b": 2,
		"\xff": 0, "a\xff": 1, "a \xff": 2, "é": 0, "a & é": 4, "\x00": 0, "`": 0, "{": 0, "a`": 1, "a{": 1, "@": 0,
	} {
		isWrong(t, s, at, api.ErrSyntax)
	}
}

func TestParseEachByte(t *testing.T) {
	for b := range 256 {
		one := string([]byte{byte(b)})
		switch {
		case strings.Contains("(!XFG ", one):
			isWrong(t, one, 1, api.ErrSyntax)
		case strings.Contains("abc", one):
			readsAs(t, one, atom(b-'a'))
		case b >= 97 && b <= 122:
			isWrong(t, one, 0, api.ErrName)
		default:
			isWrong(t, one, 0, api.ErrSyntax)
		}
		switch {
		case strings.Contains("&/URW", one):
			isWrong(t, "(a)"+one, 4, api.ErrSyntax)
		case b == 32:
			readsAs(t, "(a)"+one, atom(0))
		case b >= 100 && b <= 122:
			isWrong(t, "(a)"+one, 3, api.ErrName)
		default:
			isWrong(t, "(a)"+one, 3, api.ErrSyntax)
		}
	}
}

func TestParseWords(t *testing.T) {
	for s, at := range map[string]int{
		"d": 0, "ab": 0, "aa": 0, "tru": 0, "truea": 0, "truefalse": 0, "atrue": 0, "silents": 0, "asilent": 0, "falsee": 0,
		"abcdefgh": 0, "abcdefghi": 0, "a & d": 4, "!d": 1, "(d": 1, "(d)": 1, "a U d": 4, "d & 1": 0, "  d": 2, "d d": 0, "a->d": 3, "XFGd": 3,
		strings.Repeat("a", 300): 0,
	} {
		isWrong(t, s, at, api.ErrName)
	}
	// A word that is none is that, whether or not a word can stand there.
	for s, at := range map[string]int{"a d": 2, "(a d)": 3, "true truth": 5, "(a) d": 4, "aUb d": 4} {
		isWrong(t, s, at, api.ErrName)
	}
}

// The first error from the left is told, whatever comes behind it.
func TestParseFromTheLeft(t *testing.T) {
	open := strings.Repeat("(", 21)
	for _, c := range []struct {
		s    string
		at   int
		want api.Errno
	}{
		{"d & ?", 0, api.ErrName},
		{"? & d", 0, api.ErrSyntax},
		{"a b d", 2, api.ErrSyntax},
		{"d a b", 0, api.ErrName},
		{"d & " + open, 0, api.ErrName},
		{"a ) " + open, 2, api.ErrSyntax},
		{open + "d", 20, api.ErrDeep},
		{open + "?", 20, api.ErrDeep},
		{open + " d ?", 20, api.ErrDeep},
		{strings.Repeat("X", 20) + "d", 20, api.ErrName},
		{strings.Repeat("X", 20) + "?", 20, api.ErrSyntax},
		{strings.Repeat("(", 20) + "a (", 22, api.ErrSyntax},
		{strings.Repeat("(", 20) + "a !", 22, api.ErrSyntax},
		{strings.Repeat("aW", 100) + "a b", 202, api.ErrSyntax},
		{strings.Repeat("aW", 100) + "d", 200, api.ErrName},
		{strings.Repeat("a&", 100) + ")", 200, api.ErrSyntax},
	} {
		isWrong(t, c.s, c.at, c.want)
	}
}

func TestParseNames(t *testing.T) {
	names := []string{"b", "true", "a", "b", "silent", "abcdefghi", "", "A", "false", "abcdefgh", "a b", "X"}
	for s, want := range map[string]api.Ltl{"b": atom(0), "a": atom(2), "abcdefgh": atom(9), "true": of(api.LTrue), "false": of(api.LFalse), "silent": atom(63),
		"X b": of(api.LNext, atom(0))} {
		if f, at, e := Parse(s, names); e != api.OK || at != 0 || !equal(f, want) {
			t.Errorf("%q: %v at %d, %v", s, e, at, f)
		}
	}
	for s, want := range map[string]api.Errno{"abcdefghi": api.ErrName, "c": api.ErrName, "A": api.ErrSyntax, "": api.ErrSyntax} {
		if f, at, e := Parse(s, names); e != want || at != 0 || !isZero(f) {
			t.Errorf("%q: %v at %d, %v", s, e, at, f)
		}
	}
	if f, at, e := Parse("silent", nil); e != api.OK || at != 0 || !equal(f, atom(63)) {
		t.Error(f, at, e)
	}
	if f, at, e := Parse("X a", nil); e != api.ErrName || at != 2 || !isZero(f) {
		t.Error(f, at, e)
	}
	late := append(manyNames(63), "late", "a", "late")
	if f, at, e := Parse("late", late); e != api.ErrName || at != 0 || !isZero(f) {
		t.Error(f, at, e)
	}
	if f, at, e := Parse("a", late); e != api.OK || at != 0 || !equal(f, atom(0)) {
		t.Error(f, at, e)
	}
}

func TestParseLarge(t *testing.T) {
	readsAs(t, "a"+strings.Repeat(" ", 297)+"&b", of(api.LAnd, atom(0), atom(1)))
	for _, s := range []string{strings.Repeat(" ", 301), strings.Repeat("?", 301), "a" + strings.Repeat(" ", 298) + "&b", strings.Repeat("(", 301), strings.Repeat("d", 301), strings.Repeat("a", 1<<20)} {
		isWrong(t, s, 0, api.ErrLarge)
	}
	isWrong(t, strings.Repeat(" ", 300), 300, api.ErrSyntax)
	isWrong(t, strings.Repeat("?", 300), 0, api.ErrSyntax)
}

// What is open one within the other: brackets and signs alike, and no longer than they are open.
func TestParseDeep(t *testing.T) {
	for _, unit := range []string{"(", "!", "X", "F", "G", "(!", "X(", "!FG(", "a&(", "aU(", "a->(", "( X "} {
		for at := range 21 {
			s := ""
			for opened(s) < at {
				s += unit
			}
			if opened(s) > 20 {
				continue
			}
			// So far nothing is too deep: the text only ends too early.
			isWrong(t, s, len(s), api.ErrSyntax)
			if opened(s) == 20 {
				for _, more := range []string{"(", "!", "X", "F", "G"} {
					isWrong(t, s+more, len(s), api.ErrDeep)
					isWrong(t, s+"  "+more+"a", len(s)+2, api.ErrDeep)
				}
			}
		}
	}
	readsAs(t, strings.Repeat("(", 20)+"a"+strings.Repeat(")", 20), atom(0))
	isWrong(t, strings.Repeat("(", 21)+"a"+strings.Repeat(")", 21), 20, api.ErrDeep)
	readsAs(t, strings.Repeat("X", 19)+"a", nexts(19))
	readsAs(t, strings.Repeat("(X", 10)+"a"+strings.Repeat(")", 10), nexts(10))
	closed := strings.Repeat("(", 20) + "a" + strings.Repeat(")", 20)
	readsAs(t, closed+"&"+closed+"U"+closed, of(api.LAnd, atom(0), of(api.LUntil, atom(0), atom(0))))
	readsAs(t, "(("+strings.Repeat("X", 18)+"a) & "+strings.Repeat("X", 18)+"a)", of(api.LAnd, nexts(18), nexts(18)))
	isWrong(t, "((a) & "+strings.Repeat("!", 20)+"a)", 26, api.ErrDeep)
	isWrong(t, "!!!!!!!!!!(a) & "+strings.Repeat("(", 21), 36, api.ErrDeep)
}

// opened is how many brackets and signs a text that ends behind one of them has open.
func opened(s string) int {
	count := 0
	for _, sign := range []string{"(", "!", "X", "F", "G"} {
		count += strings.Count(s, sign)
	}
	return count
}

// nexts is a formula with that many LNexts around an LAtom.
func nexts(count int) api.Ltl {
	f := atom(0)
	for range count {
		f = of(api.LNext, f)
	}
	return f
}

// When all is read it may be too deep or too large.
func TestParseChecksAtTheEnd(t *testing.T) {
	for _, c := range []struct {
		s    string
		want api.Errno
	}{
		{strings.Repeat("X", 20) + "a", api.ErrDeep},
		{strings.Repeat("X", 20) + "a  ", api.ErrDeep},
		{strings.Repeat("X", 19) + "(aUb)", api.ErrDeep},
		{strings.Repeat("a&", 20) + "a", api.ErrDeep},
		{strings.Repeat("a/", 20) + "a", api.ErrDeep},
		{strings.Repeat("aU", 20) + "a", api.ErrDeep},
		{strings.Repeat("aR", 149) + "a", api.ErrDeep},
		{strings.Repeat("a->", 99) + "a", api.ErrDeep},
		{strings.Repeat("(a&", 20) + "a" + strings.Repeat(")", 20), api.ErrDeep},
		{"aWaWaWaWa", api.ErrLarge},
		{strings.Repeat("aW", 149) + "a", api.ErrDeep},
		{strings.Repeat("(aWb)&", 10) + "a", api.ErrLarge},
		{strings.Repeat("(aWb)&", 10) + "a ", api.ErrLarge},
	} {
		isWrong(t, c.s, len(c.s), c.want)
	}
	for s, nodes := range map[string]int{strings.Repeat("a&", 19) + "a": 39, strings.Repeat("aU", 19) + "a": 39, "aWaWaWa": 29, "X(aWaWaWa)UaWaWaWa": 1 + 1 + 29 + 29, strings.Repeat("(aWb)&", 9) + "aUa": 9*6 + 3} {
		if f, at, e := Parse(s, abc); e != api.OK || at != 0 || count(f) != nodes {
			t.Errorf("%q: %v at %d, %d nodes", s, e, at, count(f))
		}
	}
}

func TestFaultsWrapWhatIsWrong(t *testing.T) {
	for s, want := range map[string]error{"a b": errSyntax, "a & d": errName, strings.Repeat("!", 21): errDeep, strings.Repeat(" ", 301): errLarge} {
		_, err := readText(s, abc)
		var f fault
		if !errors.As(err, &f) || !errors.Is(err, want) || err.Error() == "" {
			t.Errorf("%.30q: %v", s, err)
		}
	}
}
