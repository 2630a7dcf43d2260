package ltl

import (
	"strings"

	"watchway/api"
	"watchway/naming"
)

// maxText is how many bytes the text of a formula may have.
const maxText = 300

// Parse answers the formula of a text, or an error and the byte at which it is seen.
func Parse(s string, names []string) (api.Ltl, int, api.Errno) {
	f, err := readText(s, names)
	if err != nil {
		return api.Ltl{}, place(err), number(err)
	}
	if e := Check(f); e != api.OK {
		return api.Ltl{}, len(s), e
	}
	return apart(f), 0, api.OK
}

// readText answers the formula of a text. A W's two copies share their Kids here: a row of Ws doubles what it means with each one, and how large that is is told only when all is read.
func readText(s string, names []string) (api.Ltl, error) {
	if len(s) > maxText {
		return api.Ltl{}, fault{errLarge, 0}
	}
	r := reader{text: s, names: names}
	r.pass(0)
	f, err := r.formula()
	if err == nil && r.at < len(s) {
		err = r.wrong()
	}
	return f, err
}

// apart answers a copy of a formula of which no two lists of Kids share memory.
func apart(f api.Ltl) api.Ltl {
	if len(f.Kids) == 0 {
		return f
	}
	kids := make([]api.Ltl, len(f.Kids))
	for i, kid := range f.Kids {
		kids[i] = apart(kid)
	}
	f.Kids = kids
	return f
}

// part is a formula of a kind with those Kids.
func part(kind int, kids ...api.Ltl) api.Ltl {
	return api.Ltl{Kind: kind, Kids: kids}
}

// reader reads a text from the left.
type reader struct {
	text  string
	names []string
	at    int // where the next sign or word begins, or the text's end: blanks are passed
	open  int // brackets and signs of a SINGLE within which that stands
}

// pass goes on by so many bytes, and past the blanks behind them.
func (r *reader) pass(bytes int) {
	r.at += bytes
	for r.at < len(r.text) && r.text[r.at] == ' ' {
		r.at++
	}
}

// take passes a sign, if it comes next, and tells whether it did.
func (r *reader) take(sign string) bool {
	if !strings.HasPrefix(r.text[r.at:], sign) {
		return false
	}
	r.pass(len(sign))
	return true
}

// word answers the word that comes next, the empty one if none does.
func (r *reader) word() string {
	end := r.at
	for end < len(r.text) && naming.IsLetter(r.text[end]) {
		end++
	}
	return r.text[r.at:end]
}

// wrong is the fault of what comes next where it can't stand. A word that is none is told as that wherever it stands.
func (r *reader) wrong() error {
	if word := r.word(); word != "" {
		if _, is := r.leaf(word); !is {
			return fault{errName, r.at}
		}
	}
	return fault{errSyntax, r.at}
}

// leaf answers the formula of a word, and whether it has one.
func (r *reader) leaf(word string) (api.Ltl, bool) {
	switch word {
	case signs[api.LTrue]:
		return part(api.LTrue), true
	case signs[api.LFalse]:
		return part(api.LFalse), true
	}
	atom, is := naming.Atom(r.names, word)
	return api.Ltl{Kind: api.LAtom, N: atom}, is
}

// formula reads a FORMULA.
func (r *reader) formula() (api.Ltl, error) {
	left, err := r.or()
	if err != nil || !r.take("->") {
		return left, err
	}
	right, err := r.formula()
	return part(api.LOr, part(api.LNot, left), right), err
}

// or reads an OR.
func (r *reader) or() (api.Ltl, error) {
	return r.row(api.LOr, "/", r.and)
}

// and reads an AND.
func (r *reader) and() (api.Ltl, error) {
	return r.row(api.LAnd, "&", r.way)
}

// row reads a row of what next reads, with that sign between; what stands to the left of a sign is one part already.
func (r *reader) row(kind int, sign string, next func() (api.Ltl, error)) (api.Ltl, error) {
	left, err := next()
	for err == nil && r.take(sign) {
		var right api.Ltl
		right, err = next()
		left = part(kind, left, right)
	}
	return left, err
}

// way reads a WAY.
func (r *reader) way() (api.Ltl, error) {
	left, err := r.single()
	if err != nil {
		return left, err
	}
	switch {
	case r.take("U"):
		right, err := r.way()
		return part(api.LUntil, left, right), err
	case r.take("R"):
		right, err := r.way()
		return part(api.LRelease, left, right), err
	case r.take("W"):
		right, err := r.way()
		return part(api.LRelease, right, part(api.LOr, left, right)), err
	}
	return left, nil
}

// single reads a SINGLE.
func (r *reader) single() (api.Ltl, error) {
	before := r.at
	switch {
	case r.take("("):
		return r.within(before, r.closed)
	case r.take("!"):
		return r.signed(before, api.LNot)
	case r.take("X"):
		return r.signed(before, api.LNext)
	case r.take("F"):
		return r.signed(before, api.LFinally)
	case r.take("G"):
		return r.signed(before, api.LGlobally)
	}
	word := r.word()
	f, is := r.leaf(word)
	if !is {
		return f, r.wrong()
	}
	r.pass(len(word))
	return f, nil
}

// within reads what stands behind a bracket or sign, which is open that long.
func (r *reader) within(sign int, next func() (api.Ltl, error)) (api.Ltl, error) {
	if r.open == api.MaxDeep {
		return api.Ltl{}, fault{errDeep, sign}
	}
	r.open++
	f, err := next()
	r.open--
	return f, err
}

// signed reads the SINGLE behind a sign.
func (r *reader) signed(sign, kind int) (api.Ltl, error) {
	kid, err := r.within(sign, r.single)
	return part(kind, kid), err
}

// closed reads a FORMULA and its bracket.
func (r *reader) closed() (api.Ltl, error) {
	f, err := r.formula()
	if err == nil && !r.take(")") {
		err = r.wrong()
	}
	return f, err
}
