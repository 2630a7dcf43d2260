// Package naming: what is a name, and which atoms names stand for.
package naming

import (
	"slices"

	"watchway/api"
)

// silent is the word of the atom api.Silent.
const silent = "silent"

// IsName tells whether a text is a NAME (P6).
func IsName(text string) bool {
	if len(text) < 1 || len(text) > api.MaxName {
		return false
	}
	for i := range len(text) {
		if !IsLetter(text[i]) {
			return false
		}
	}
	// Formulas have these words for themselves.
	return text != "true" && text != "false" && text != silent
}

// IsLetter tells whether a byte is one of the letters a to z.
func IsLetter(b byte) bool {
	return b >= 'a' && b <= 'z'
}

// Atom answers the atom that a word stands for, and whether there is one: the first number of that name, or api.Silent.
func Atom(names []string, word string) (int, bool) {
	if word == silent {
		return api.Silent, true
	}
	if !IsName(word) {
		return 0, false
	}
	// A number from api.Silent on is no name's atom.
	atom := slices.Index(names[:min(len(names), api.Silent)], word)
	return max(atom, 0), atom >= 0
}

// Word answers the word that stands for an atom, and whether there is one. It is a piece of names: who tells it copies it.
func Word(names []string, atom int) (string, bool) {
	if atom == api.Silent {
		return silent, true
	}
	if atom < 0 || atom >= len(names) {
		return "", false
	}
	// A name that stands ahead of this one, too, means that one.
	if first, is := Atom(names, names[atom]); !is || first != atom {
		return "", false
	}
	return names[atom], true
}
