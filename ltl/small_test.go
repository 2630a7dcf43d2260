package ltl

import (
	"math/rand"
	"regexp"
	"slices"
	"strings"
	"testing"

	"watchway/api"
)

// plainPrint is Print by the words of the document, of a formula that has a text.
func plainPrint(f api.Ltl, names []string) string {
	kid := func(i int) string {
		k := f.Kids[i]
		brackets := slices.Contains([]int{5, 6, 8, 9}, k.Kind)
		if i == 0 && (f.Kind == 5 || f.Kind == 6) && k.Kind == f.Kind {
			brackets = false
		}
		if i == 1 && (f.Kind == 8 || f.Kind == 9) && k.Kind == f.Kind {
			brackets = false
		}
		if f.Kind == 6 && k.Kind == 5 {
			brackets = false
		}
		if brackets {
			return "(" + plainPrint(k, names) + ")"
		}
		return plainPrint(k, names)
	}
	switch f.Kind {
	case 1:
		return "true"
	case 2:
		return "false"
	case 3:
		if f.N == 63 {
			return "silent"
		}
		return names[f.N]
	case 4:
		return "!" + kid(0)
	case 7, 10, 11:
		return map[int]string{7: "X ", 10: "F ", 11: "G "}[f.Kind] + kid(0)
	}
	return kid(0) + " " + map[int]string{5: "&", 6: "/", 8: "U", 9: "R"}[f.Kind] + " " + kid(1)
}

// seenNode is a node of a formula, and how deep it stands.
type seenNode struct {
	f    api.Ltl
	deep int
}

// plainCheck is Check by the words of the document: the nodes in one row, as far as they are looked at.
func plainCheck(f api.Ltl) api.Errno {
	waiting := []seenNode{{f, 1}}
	for number := 1; len(waiting) > 0; number++ {
		node := waiting[0]
		kids := node.f.Kids
		switch {
		case number == 61:
			return api.ErrLarge
		case node.deep > 20:
			return api.ErrDeep
		case node.f.Kind < 1 || node.f.Kind > 11 || len(kids) != kidsOf(node.f.Kind),
			node.f.Kind == 3 && (node.f.N < 0 || node.f.N > 63), node.f.Kind != 3 && node.f.N != 0:
			return api.ErrArg
		}
		var next []seenNode
		for _, kid := range kids {
			next = append(next, seenNode{kid, node.deep + 1})
		}
		waiting = append(next, waiting[1:]...)
	}
	return api.OK
}

// tokens are the words and signs of a text.
var tokens = regexp.MustCompile(`(?s)[a-z]+|->|[^ ]`)

// plainReader reads a text word by word and sign by sign, with what waits to be put together on a stack.
type plainReader struct {
	names []string
	signs []string
	done  []api.Ltl
}

// binds is how much a sign between two parts binds.
func binds(sign string) int {
	return map[string]int{"->": 1, "/": 2, "&": 3, "U": 4, "R": 4, "W": 4}[sign]
}

func (r *plainReader) word(word string) (api.Ltl, bool) {
	switch word {
	case "true":
		return of(1), true
	case "false":
		return of(2), true
	case "silent":
		return atom(63), true
	}
	n := slices.Index(r.names, word)
	return atom(n), n >= 0 && n < 63 && len(word) <= 8
}

func (r *plainReader) top() string {
	if len(r.signs) == 0 {
		return ""
	}
	return r.signs[len(r.signs)-1]
}

// join puts the last sign and the parts that it stands with together.
func (r *plainReader) join() {
	sign := r.top()
	r.signs = r.signs[:len(r.signs)-1]
	b := r.done[len(r.done)-1]
	r.done = r.done[:len(r.done)-1]
	if kind := map[string]int{"!": 4, "X": 7, "F": 10, "G": 11}[sign]; kind > 0 {
		r.done = append(r.done, of(kind, b))
		return
	}
	a := r.done[len(r.done)-1]
	r.done = r.done[:len(r.done)-1]
	switch sign {
	case "->":
		r.done = append(r.done, of(6, of(4, a), b))
	case "W":
		r.done = append(r.done, of(9, b, of(6, a, b)))
	default:
		r.done = append(r.done, of(map[string]int{"/": 6, "&": 5, "U": 8, "R": 9}[sign], a, b))
	}
}

// ended is called when a word or a bracket ends a SINGLE.
func (r *plainReader) ended() {
	for r.top() != "" && strings.Contains("!XFG", r.top()) {
		r.join()
	}
}

func (r *plainReader) openCount() int {
	count := 0
	for _, sign := range r.signs {
		if binds(sign) == 0 {
			count++
		}
	}
	return count
}

// plainParse is Parse by the words of the document.
func plainParse(s string, names []string) (api.Ltl, int, api.Errno) {
	if len(s) > 300 {
		return api.Ltl{}, 0, api.ErrLarge
	}
	r := plainReader{names: names}
	behind := false
	for _, span := range tokens.FindAllStringIndex(s, -1) {
		at, token := span[0], s[span[0]:span[1]]
		f, known := r.word(token)
		word := token[0] >= 97 && token[0] <= 122
		switch {
		case word && !known:
			return api.Ltl{}, at, api.ErrName
		case word && !behind:
			r.done = append(r.done, f)
			r.ended()
			behind = true
		case !behind && strings.Contains("(!XFG", token):
			if r.openCount() == 20 {
				return api.Ltl{}, at, api.ErrDeep
			}
			r.signs = append(r.signs, token)
		case behind && token == ")" && slices.Contains(r.signs, "("):
			for r.top() != "(" {
				r.join()
			}
			r.signs = r.signs[:len(r.signs)-1]
			r.ended()
		case behind && binds(token) > 0:
			left := token == "/" || token == "&"
			for binds(r.top()) > binds(token) || left && r.top() == token {
				r.join()
			}
			r.signs = append(r.signs, token)
			behind = false
		default:
			return api.Ltl{}, at, api.ErrSyntax
		}
	}
	if !behind || slices.Contains(r.signs, "(") {
		return api.Ltl{}, len(s), api.ErrSyntax
	}
	for len(r.signs) > 0 {
		r.join()
	}
	if e := plainCheck(r.done[0]); e != api.OK {
		return api.Ltl{}, len(s), e
	}
	return r.done[0], 0, api.OK
}

// lookAtText holds Parse against the plain reckoning.
func lookAtText(t *testing.T, s string, names []string) api.Errno {
	t.Helper()
	want, wantAt, wantE := plainParse(s, names)
	f, at, e := Parse(s, names)
	if e != wantE || at != wantAt || !equal(f, want) {
		t.Fatalf("%q: %v at %d, %v; want %v at %d, %v", s, e, at, f, wantE, wantAt, want)
	}
	return e
}

// lookAtFormula holds Check and Print against the plain reckoning, and what is printed against what is read of it.
func lookAtFormula(t *testing.T, f api.Ltl, names []string) {
	t.Helper()
	want := plainCheck(f)
	if e := Check(f); e != want {
		t.Fatal(f, ":", e, "want", want)
	}
	s, e := Print(f, names)
	if e != want || e != api.OK && s != "" {
		t.Fatalf("%v: %q %v", f, s, e)
	}
	if e != api.OK {
		return
	}
	if s != plainPrint(f, names) {
		t.Fatalf("%v: %q", f, s)
	}
	if len(s) > 300 {
		return
	}
	if g, at, e := Parse(s, names); e != api.OK || at != 0 || !equal(f, g) {
		t.Fatalf("%q: %v at %d, %v", s, e, at, g)
	}
}

// eachFormula hands over all formulas of that many nodes, with those leaves.
func eachFormula(nodes int, leaves []api.Ltl, do func(api.Ltl)) {
	if nodes == 1 {
		for _, f := range leaves {
			do(f)
		}
		return
	}
	for _, kind := range []int{4, 7, 10, 11} {
		eachFormula(nodes-1, leaves, func(kid api.Ltl) { do(of(kind, kid)) })
	}
	for _, kind := range []int{5, 6, 8, 9} {
		for first := 1; first < nodes-1; first++ {
			eachFormula(first, leaves, func(a api.Ltl) {
				eachFormula(nodes-1-first, leaves, func(b api.Ltl) { do(of(kind, a, b)) })
			})
		}
	}
}

func TestSmallFormulas(t *testing.T) {
	leaves := []api.Ltl{of(1), of(2), atom(0), atom(1), atom(63)}
	for nodes := 1; nodes <= 5; nodes++ {
		eachFormula(nodes, leaves, func(f api.Ltl) { lookAtFormula(t, f, abc) })
	}
	for nodes := 6; nodes <= 7; nodes++ {
		eachFormula(nodes, []api.Ltl{atom(2)}, func(f api.Ltl) { lookAtFormula(t, f, abc) })
	}
}

// drawn is a formula of some nodes at most; wrong is how often of a hundred times a node is made wrong.
func drawn(r *rand.Rand, nodes, deep, wrong int) api.Ltl {
	f := api.Ltl{Kind: 4 + r.Intn(8)}
	if nodes <= 2 || deep <= 1 {
		f.Kind = 1 + r.Intn(3)
	}
	if f.Kind == api.LAtom {
		f.N = []int{0, 1, 2, 63}[r.Intn(4)]
	}
	kids := kidsOf(f.Kind)
	if r.Intn(100) < wrong {
		switch r.Intn(3) {
		case 0:
			kids = r.Intn(4)
		case 1:
			f.N = r.Intn(130) - 65
		case 2:
			f.Kind = r.Intn(15) - 1
		}
	}
	left := nodes - 1
	for i := range kids {
		share := left
		if i+1 < kids {
			share = 1 + r.Intn(max(left-1, 1))
		}
		f.Kids = append(f.Kids, drawn(r, share, deep-1, wrong))
		left = max(left-share, 1)
	}
	return f
}

// atomsKnown tells whether all atoms of a formula are numbers of abc, or 63.
func atomsKnown(f api.Ltl) bool {
	if f.Kind == api.LAtom && f.N > 2 && f.N != 63 {
		return false
	}
	return !slices.ContainsFunc(f.Kids, func(kid api.Ltl) bool { return !atomsKnown(kid) })
}

func TestDrawnFormulas(t *testing.T) {
	r := rand.New(rand.NewSource(10))
	seen := map[api.Errno]int{}
	for range 40000 {
		f := drawn(r, 1+r.Intn(90), 5+r.Intn(25), []int{0, 0, 1, 3}[r.Intn(4)])
		seen[plainCheck(f)]++
		if plainCheck(f) == api.OK && !atomsKnown(f) {
			if s, e := Print(f, abc); e != api.ErrName || s != "" {
				t.Fatalf("%v: %q %v", f, s, e)
			}
			continue
		}
		lookAtFormula(t, f, abc)
	}
	for _, e := range []api.Errno{api.OK, api.ErrLarge, api.ErrDeep, api.ErrArg} {
		if seen[e] < 500 {
			t.Error("too few of", e, ":", seen[e])
		}
	}
}

// All texts of a few words and signs.
func TestSmallTexts(t *testing.T) {
	parts := []string{"a", "b", "d", "true", "!", "X", "(", ")", "&", "/", "U", "R", "W", "->", "-", "?"}
	var next func(s, blank string, more int)
	next = func(s, blank string, more int) {
		lookAtText(t, s, abc)
		for _, part := range parts {
			if more > 0 {
				next(s+part+blank, blank, more-1)
			}
		}
	}
	next("", "", 4)
	next("", " ", 4)
	parts = []string{"a", "!", "(", ")", "&", "/", "U", "W", "->"}
	next("", "", 6)
}

// Texts as they are printed, changed at some bytes.
func TestDrawnTexts(t *testing.T) {
	r := rand.New(rand.NewSource(11))
	bytes := "abcd ()!XFGURW&/->-  tfs?A1\x00\xff"
	seen := map[api.Errno]int{}
	for range 60000 {
		s := []byte(plainPrint(drawn(r, 1+r.Intn(40), 4+r.Intn(18), 0), abc))
		for range r.Intn(4) {
			at := r.Intn(len(s) + 1)
			b := bytes[r.Intn(len(bytes))]
			switch {
			case at == len(s) || r.Intn(2) == 0:
				s = slices.Insert(s, at, b)
			case r.Intn(2) == 0:
				s = slices.Delete(s, at, at+1)
			default:
				s[at] = b
			}
		}
		seen[lookAtText(t, string(s), abc)]++
	}
	for _, e := range []api.Errno{api.OK, api.ErrSyntax, api.ErrName} {
		if seen[e] < 500 {
			t.Error("too few of", e, ":", seen[e])
		}
	}
}

// Texts of any words and signs that can stand where they do, up to where they are cut off.
func TestDrawnRows(t *testing.T) {
	r := rand.New(rand.NewSource(12))
	seen := map[api.Errno]int{}
	for range 20000 {
		var s strings.Builder
		open := 0
		for range 1 + r.Intn(60) {
			for r.Intn(3) == 0 {
				sign := []string{"(", "(", "!", "X", "F", "G"}[r.Intn(6)]
				open += strings.Count(sign, "(")
				s.WriteString(sign)
			}
			s.WriteString([]string{"a", "b", "c", "true", "silent"}[r.Intn(5)])
			for open > 0 && r.Intn(2) == 0 {
				s.WriteByte(')')
				open--
			}
			s.WriteString([]string{"&", "/", "U", "R", "W", "->"}[r.Intn(6)])
		}
		s.WriteString("a" + strings.Repeat(")", open))
		text := s.String()
		if r.Intn(4) == 0 {
			text = text[:r.Intn(len(text)+1)]
		}
		seen[lookAtText(t, text, abc)]++
	}
	for _, e := range []api.Errno{api.OK, api.ErrSyntax, api.ErrLarge, api.ErrDeep} {
		if seen[e] < 100 {
			t.Error("too few of", e, ":", seen[e])
		}
	}
}

// Texts of signs that open, mostly: deep ones.
func TestDrawnDeep(t *testing.T) {
	r := rand.New(rand.NewSource(13))
	seen := map[api.Errno]int{}
	for range 40000 {
		var s strings.Builder
		for range r.Intn(60) {
			s.WriteString([]string{"(", "(", "(", "!(", "X(", "F(", "G(", "!", "(a&", "(aU", "Xa->(", "a)&(", " "}[r.Intn(13)])
		}
		seen[lookAtText(t, s.String(), abc)]++
	}
	if seen[api.ErrDeep] < 500 || seen[api.ErrSyntax] < 500 {
		t.Error(seen)
	}
}
