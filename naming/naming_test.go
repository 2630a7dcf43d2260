package naming

import (
	"math"
	"strconv"
	"strings"
	"testing"

	"watchway/api"
)

func TestIsName(t *testing.T) {
	for _, text := range []string{"a", "z", "abcdefgh", "zzzzzzzz", "tru", "truee", "atrue", "fals", "falsee", "silen", "silents", "flow"} {
		if !IsName(text) {
			t.Error(text)
		}
	}
	for _, text := range []string{"", "true", "false", "silent", "abcdefghi", strings.Repeat("a", 1<<20), "A", "aB", "a1", " a", "a ", "a b", "a\n", "é", "\xff"} {
		if IsName(text) {
			t.Errorf("%.20q", text)
		}
	}
}

func TestIsLetter(t *testing.T) {
	for b := range 256 {
		if IsLetter(byte(b)) != (b >= 97 && b <= 122) {
			t.Error(b)
		}
	}
}

// many are names that are all different, a of 0, aa of 26 and so on.
func many(count int) []string {
	var names []string
	for i := range count {
		names = append(names, strings.Repeat(string(rune('a'+i%26)), 1+i/26))
	}
	return names
}

func TestAtomAndWordOfMany(t *testing.T) {
	names := many(80)
	for number, name := range names {
		atom, is := Atom(names, name)
		word, has := Word(names, number)
		switch {
		case number < 63:
			if !is || atom != number || !has || word != name {
				t.Error(number, atom, is, word, has)
			}
		case number == 63:
			if is || atom != 0 || !has || word != "silent" {
				t.Error(number, atom, is, word, has)
			}
		default:
			if is || atom != 0 || has || word != "" {
				t.Error(number, atom, is, word, has)
			}
		}
	}
}

func TestAtom(t *testing.T) {
	names := []string{"b", "true", "a", "b", "silent", "abcdefghi", "", "A"}
	for word, want := range map[string]int{"b": 0, "a": 2, "silent": api.Silent} {
		if atom, is := Atom(names, word); !is || atom != want {
			t.Error(word, atom, is)
		}
	}
	for _, word := range []string{"c", "true", "abcdefghi", "", "A", "ab", "bb"} {
		if atom, is := Atom(names, word); is || atom != 0 {
			t.Error(word, atom, is)
		}
	}
	if atom, is := Atom(nil, "silent"); !is || atom != api.Silent {
		t.Error(atom, is)
	}
	if atom, is := Atom(nil, "a"); is || atom != 0 {
		t.Error(atom, is)
	}
}

func TestWord(t *testing.T) {
	names := []string{"b", "true", "a", "b", "silent", "abcdefghi", "", "A"}
	for atom, want := range map[int]string{0: "b", 2: "a", 63: "silent"} {
		if word, is := Word(names, atom); !is || word != want {
			t.Error(atom, word, is)
		}
	}
	for _, atom := range []int{1, 3, 4, 5, 6, 7, 8, 62, 64, -1, math.MinInt, math.MaxInt} {
		if word, is := Word(names, atom); is || word != "" {
			t.Error(atom, word, is)
		}
	}
}

// A name whose first number is too great is not met at a lower one.
func TestAtomTwice(t *testing.T) {
	names := many(70)
	names[69] = names[5]
	if atom, is := Atom(names, names[69]); !is || atom != 5 {
		t.Error(atom, is)
	}
	for i := range names {
		names[i] = "x" + strconv.Itoa(i)
	}
	names[63], names[64] = "late", "late"
	if atom, is := Atom(names, "late"); is || atom != 0 {
		t.Error(atom, is)
	}
}
