package proc

import (
	"regexp"
	"slices"
	"strings"
	"testing"

	"watchway/api"
)

var namePattern = regexp.MustCompile(`\A[a-z]{1,8}\z`)

// plainNodes tells the first error of nodes, as the document words it.
func plainNodes(nodes []api.Node) api.Errno {
	seen := map[string]int{}
	for i, n := range nodes {
		kept := slices.Contains([]string{"true", "false", "silent"}, n.Name)
		if !namePattern.MatchString(n.Name) || kept || !slices.Contains([]int{1, 2, 3, 4, 5, 6, 7}, n.Kind) {
			return api.ErrArg
		}
		if _, is := seen[n.Name]; is {
			return api.ErrName
		}
		seen[n.Name] = i
	}
	return api.OK
}

// plainReach tells of each node whether it is come to, by going along all flows until nothing more changes.
func plainReach(p api.Process) []bool {
	reached := make([]bool, len(p.Nodes))
	for i, n := range p.Nodes {
		reached[i] = n.Kind == 1
	}
	for range p.Nodes {
		for _, f := range p.Flows {
			reached[f.To] = reached[f.To] || reached[f.From]
		}
	}
	return reached
}

// plainCheck is Check by the words of the document.
func plainCheck(p api.Process) api.Errno {
	if len(p.Nodes) > 20 || len(p.Flows) > 30 {
		return api.ErrLarge
	}
	if e := plainNodes(p.Nodes); e != api.OK {
		return e
	}
	ins, outs, starts := map[int]int{}, map[int]int{}, 0
	for _, f := range p.Flows {
		if min(f.From, f.To) < 0 || max(f.From, f.To) >= len(p.Nodes) {
			return api.ErrArg
		}
		ins[f.To]++
		outs[f.From]++
	}
	for i, n := range p.Nodes {
		if !mayHave(n.Kind, ins[i], outs[i]) {
			return api.ErrArg
		}
		if n.Kind == 1 {
			starts++
		}
	}
	if starts != 1 {
		return api.ErrArg
	}
	if slices.Contains(plainReach(p), false) {
		return api.ErrReach
	}
	return api.OK
}

// eachFlows hands over all lists of flows, up to that many, with ends from..to, that don't fall.
func eachFlows(most, from, to int, do func([]api.Flow)) {
	var pairs []api.Flow
	for a := from; a <= to; a++ {
		for b := from; b <= to; b++ {
			pairs = append(pairs, flow(a, b))
		}
	}
	var grow func(flows []api.Flow, least int)
	grow = func(flows []api.Flow, least int) {
		do(flows)
		if len(flows) == most {
			return
		}
		for i := least; i < len(pairs); i++ {
			grow(append(slices.Clone(flows), pairs[i]), i)
		}
	}
	grow(nil, 0)
}

// eachNodes hands over all lists of that many nodes, of those kinds, with those names.
func eachNodes(count int, kinds []int, names []string, do func([]api.Node)) {
	var next func(nodes []api.Node)
	next = func(nodes []api.Node) {
		if len(nodes) == count {
			do(nodes)
			return
		}
		for _, k := range kinds {
			for _, n := range names {
				next(append(slices.Clone(nodes), node(k, n)))
			}
		}
	}
	next(nil)
}

// lookAt holds all calls against the plain reckoning.
func lookAt(t *testing.T, p api.Process) {
	want := plainCheck(p)
	if e := Check(p); e != want {
		t.Fatal(p, ":", e, "want", want)
	}
	if want != api.OK {
		return
	}
	s, _ := Print(p)
	if q, at, e := Parse(s); e != api.OK || at != 0 || !equal(p, q) {
		t.Fatalf("%q: %v %v %v", s, q, at, e)
	}
	for n := range p.Nodes {
		var ins, outs []int
		for i, f := range p.Flows {
			if f.To == n {
				ins = append(ins, i)
			}
			if f.From == n {
				outs = append(outs, i)
			}
		}
		gotIns, e := Ins(p, n)
		gotOuts, e2 := Outs(p, n)
		if e != api.OK || e2 != api.OK || !slices.Equal(ins, gotIns) || !slices.Equal(outs, gotOuts) {
			t.Fatal(p, n, gotIns, gotOuts)
		}
	}
}

// Wrong names, kinds and ends, in all orders.
func TestSmallWrong(t *testing.T) {
	for count := range 4 {
		eachNodes(count, []int{0, 1, 2, 4, 8}, []string{"a", "b", "A"}, func(nodes []api.Node) {
			eachFlows(1, -1, count, func(flows []api.Flow) {
				lookAt(t, api.Process{Nodes: nodes, Flows: flows})
			})
		})
	}
}

// All kinds, with all flows.
func TestSmallKinds(t *testing.T) {
	names := []string{"silents", "b", "abcdefgh"}
	for count := range 4 {
		var lists [][]api.Flow
		eachFlows(5, 0, count-1, func(flows []api.Flow) { lists = append(lists, flows) })
		eachNodes(count, []int{1, 2, 3, 4, 5, 6, 7}, []string{"-"}, func(nodes []api.Node) {
			for i := range nodes {
				nodes[i].Name = names[i]
			}
			for _, flows := range lists {
				lookAt(t, api.Process{Nodes: nodes, Flows: flows})
			}
		})
	}
}

// plainParse is Parse by the words of the document, but for the text's size.
func plainParse(s string) (int, api.Errno) {
	kinds := map[string]int{"start": 1, "end": 2, "stop": 3, "task": 4, "xor": 5, "and": 6, "or": 7}
	nodeLine := regexp.MustCompile(`\A(start|end|stop|task|xor|and|or) ([a-z]{1,8})\n\z`)
	flowLine := regexp.MustCompile(`\Aflow ([a-z]{1,8}) ([a-z]{1,8})\n\z`)
	kept := regexp.MustCompile(` (true|false|silent)[ \n]`)
	var p api.Process
	first := map[string]int{}
	unknown := 0
	for i, l := range slices.DeleteFunc(strings.SplitAfter(s, "\n"), func(l string) bool { return l == "" }) {
		n, f := nodeLine.FindStringSubmatch(l), flowLine.FindStringSubmatch(l)
		switch {
		case kept.MatchString(l), n == nil && f == nil, n != nil && (len(p.Flows) > 0 || unknown > 0):
			return i + 1, api.ErrSyntax
		case n != nil:
			if _, is := first[n[2]]; !is {
				first[n[2]] = len(p.Nodes)
			}
			p.Nodes = append(p.Nodes, node(kinds[n[1]], n[2]))
		default:
			from, isFrom := first[f[1]]
			to, isTo := first[f[2]]
			if unknown == 0 && (!isFrom || !isTo) {
				unknown = i + 1
			}
			p.Flows = append(p.Flows, flow(from, to))
		}
	}
	if unknown > 0 {
		return unknown, api.ErrName
	}
	return 0, plainCheck(p)
}

// All texts of a few lines, of good ones and wrong ones.
func TestSmallTexts(t *testing.T) {
	lines := []string{"start a\n", "end b\n", "xor a\n", "task c\n", "flow a b\n", "flow a c\n", "flow c b\n", "flow b silent\n", "end true\n", "flow a\n", "end b"}
	var next func(s string, more int)
	next = func(s string, more int) {
		at, want := plainParse(s)
		p, gotAt, e := Parse(s)
		if e != want || gotAt != at {
			t.Fatalf("%q: %v at %d, want %v at %d", s, e, gotAt, want, at)
		}
		if e == api.OK {
			if u, e := Print(p); e != api.OK || u != s {
				t.Fatalf("%q is read as %q", s, u)
			}
		}
		if more == 0 {
			return
		}
		for _, l := range lines {
			next(s+l, more-1)
		}
	}
	next("", 4)
	next("start a\nend b\ntask c\n", 3)
}
