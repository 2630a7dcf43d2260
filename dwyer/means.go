package dwyer

import (
	"math"
	"slices"

	"watchway/api"
	"watchway/lasso"
)

// Means tells whether a word keeps to a pattern.
func Means(p api.Pattern, w api.Word) (bool, api.Errno) {
	if e := Check(p); e != api.OK {
		return false, e
	}
	if e := lasso.Check(w); e != api.OK {
		return false, e
	}
	r := row{w}
	breaks := func(s span) bool { return !r.keeps(p, s) }
	return !slices.ContainsFunc(r.intervals(p), breaks), api.OK
}

// ever is the end of an interval that has none, and where a letter stands that never comes.
const ever = math.MaxInt

// span is an interval of places: from one to ahead of another.
type span struct{ from, to int }

// row is a word whose places are looked at.
type row struct{ word api.Word }

// has tells of a letter whether it has an atom.
func has(atom int) func(letter uint64) bool {
	return func(letter uint64) bool { return letter>>atom&1 == 1 }
}

// hasNot tells of a letter whether it lacks an atom.
func hasNot(atom int) func(letter uint64) bool {
	return func(letter uint64) bool { return letter>>atom&1 == 0 }
}

// places are those of an interval till the Loop has been gone round: behind them only the same letters come again.
func (r row) places(s span) span {
	round := max(s.from, len(r.word.Stem)) + len(r.word.Loop)
	return span{s.from, min(s.to, round)}
}

// at tells whether the letter at a place is as asked.
func (r row) at(place int, is func(letter uint64) bool) bool {
	letter, _ := lasso.At(r.word, place)
	return is(letter)
}

// first answers the first place of an interval whose letter is as asked, or ever.
func (r row) first(s span, is func(letter uint64) bool) int {
	s = r.places(s)
	for place := s.from; place < s.to; place++ {
		if r.at(place, is) {
			return place
		}
	}
	return ever
}

// intervals are those that the Scope of a pattern tells. Of those that begin in a later round of the Loop each is like one that begins in the first.
func (r row) intervals(p api.Pattern) []span {
	all := span{0, ever}
	switch p.Scope {
	case api.SBefore:
		if end := r.first(all, has(p.R)); end != ever {
			return []span{{0, end}}
		}
		return nil
	case api.SAfter:
		if from := r.first(all, has(p.Q)); from != ever {
			return []span{{from, ever}}
		}
		return nil
	case api.SBetween:
		return slices.DeleteFunc(r.opened(p), func(s span) bool { return s.to == ever })
	case api.SUntil:
		return r.opened(p)
	}
	return []span{all}
}

// opened are the intervals from each place with Q and without R to ahead of the next R, or for ever.
func (r row) opened(p api.Pattern) []span {
	var list []span
	begins := r.places(span{0, ever})
	for place := begins.from; place < begins.to; place++ {
		if r.at(place, has(p.Q)) && r.at(place, hasNot(p.R)) {
			end := r.first(span{place + 1, ever}, has(p.R))
			list = append(list, span{place, end})
		}
	}
	return list
}

// keeps tells whether an interval keeps to the Kind of a pattern.
func (r row) keeps(p api.Pattern, s span) bool {
	switch p.Kind {
	case api.PAbsence:
		return r.atMost(0, p, s)
	case api.PUniversal:
		return r.first(s, hasNot(p.P)) == ever
	case api.PExistence:
		return r.first(s, has(p.P)) != ever
	case api.PBounded:
		return r.atMost(p.Count, p, s)
	case api.PPrecedence:
		return r.first(s, has(p.S)) <= r.first(s, has(p.P))
	}
	return r.answered(p, s)
}

// atMost tells whether at most so many places of an interval have P. It asks for the next one each time, so a P of the Loop is met as often as need be.
func (r row) atMost(count int, p api.Pattern, s span) bool {
	for range count + 1 {
		place := r.first(s, has(p.P))
		if place == ever {
			return true
		}
		s.from = place + 1
	}
	return false
}

// answered tells whether each place of an interval that has P, or a later one, has S.
func (r row) answered(p api.Pattern, s span) bool {
	look := r.places(s)
	for place := look.from; place < look.to; place++ {
		if r.at(place, has(p.P)) && r.first(span{place, s.to}, has(p.S)) == ever {
			return false
		}
	}
	return true
}
