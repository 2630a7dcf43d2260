package ltl

import (
	"strings"

	"watchway/api"
	"watchway/naming"
)

// signs are what is written of a formula itself, by its Kind; of an LAtom that is its name's business.
var signs = [...]string{
	api.LTrue:     "true",
	api.LFalse:    "false",
	api.LNot:      "!",
	api.LAnd:      " & ",
	api.LOr:       " / ",
	api.LNext:     "X ",
	api.LUntil:    " U ",
	api.LRelease:  " R ",
	api.LFinally:  "F ",
	api.LGlobally: "G ",
}

// Print answers the text of a formula.
func Print(f api.Ltl, names []string) (string, api.Errno) {
	if e := Check(f); e != api.OK {
		return "", e
	}
	var text strings.Builder
	if !write(&text, f, names) {
		return "", api.ErrName
	}
	return text.String(), api.OK
}

// write writes a formula, and tells whether all of its atoms have names.
func write(text *strings.Builder, f api.Ltl, names []string) bool {
	switch len(f.Kids) {
	case 1:
		text.WriteString(signs[f.Kind])
		return writeKid(text, f, 0, names)
	case 2:
		first := writeKid(text, f, 0, names)
		text.WriteString(signs[f.Kind])
		return writeKid(text, f, 1, names) && first
	}
	return writeLeaf(text, f, names)
}

// writeLeaf writes a formula without Kids.
func writeLeaf(text *strings.Builder, f api.Ltl, names []string) bool {
	if f.Kind != api.LAtom {
		text.WriteString(signs[f.Kind])
		return true
	}
	word, is := naming.Word(names, f.N)
	text.WriteString(word)
	return is
}

// writeKid writes the Kid at a place of f, in brackets if it needs them.
func writeKid(text *strings.Builder, f api.Ltl, place int, names []string) bool {
	kid := f.Kids[place]
	if standsBare(kid.Kind, f.Kind, place) {
		return write(text, kid, names)
	}
	text.WriteByte('(')
	is := write(text, kid, names)
	text.WriteByte(')')
	return is
}

// standsBare tells whether a Kid needs no brackets at that place of what it is a Kid of.
func standsBare(kid, of, place int) bool {
	if kidCounts[kid] < 2 {
		return true
	}
	switch of {
	case api.LAnd:
		return kid == of && place == 0
	case api.LOr:
		return kid == of && place == 0 || kid == api.LAnd
	case api.LUntil, api.LRelease:
		return kid == of && place == 1
	}
	return false
}
