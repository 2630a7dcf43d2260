package proc

import (
	"math"
	"slices"
	"strings"
	"testing"

	"watchway/api"
)

// node is a short way to write a node.
func node(kind int, name string) api.Node { return api.Node{Name: name, Kind: kind} }

// flow is a short way to write a flow.
func flow(from, to int) api.Flow { return api.Flow{From: from, To: to} }

// nameOf is another name for each number.
func nameOf(number int) string {
	return string([]byte{byte('a' + number/26), byte('a' + number%26)})
}

// line is a process: a start, that many tasks in a row, an end.
func line(tasks int) api.Process {
	p := api.Process{Nodes: []api.Node{node(api.NStart, nameOf(0))}}
	for i := range tasks {
		p.Nodes = append(p.Nodes, node(api.NTask, nameOf(i+1)))
		p.Flows = append(p.Flows, flow(i, i+1))
	}
	p.Nodes = append(p.Nodes, node(api.NEnd, nameOf(tasks+1)))
	p.Flows = append(p.Flows, flow(tasks, tasks+1))
	return p
}

// around is a process in which a node of that kind has so many flows in and out, if there is a process like that. An NXor ahead of it (or the start alone) gives it what comes in; each flow out of it goes to the end.
func around(kind, ins, outs int) api.Process {
	p := api.Process{Nodes: []api.Node{node(api.NStart, "a"), node(api.NXor, "x"), node(api.NEnd, "e"), node(kind, "n")}}
	p.Flows = []api.Flow{flow(0, 1), flow(1, 2)}
	for range ins {
		p.Flows = append(p.Flows, flow(1, 3))
	}
	for range outs {
		p.Flows = append(p.Flows, flow(3, 2))
	}
	return p
}

// startAlone is a process whose start has so many flows in and out.
func startAlone(ins, outs int) api.Process {
	p := api.Process{Nodes: []api.Node{node(api.NStart, "a"), node(api.NXor, "x"), node(api.NEnd, "e")}}
	p.Flows = []api.Flow{flow(1, 2)}
	for range ins {
		p.Flows = append(p.Flows, flow(1, 0))
	}
	for range outs {
		p.Flows = append(p.Flows, flow(0, 1))
	}
	return p
}

// named is the least process, with another name for its end.
func named(name string) api.Process {
	p := line(0)
	p.Nodes[1].Name = name
	return p
}

func TestCheckName(t *testing.T) {
	good := []string{"a", "z", "b", "y", "abcdefgh", "zzzzzzzz", "flow", "start", "end", "stop", "task", "xor", "and", "or",
		"tru", "truee", "atrue", "falsey", "als", "silen", "silents", "unsilent", "none"}
	for _, name := range good {
		if e := Check(named(name)); e != api.OK {
			t.Error(name, e)
		}
	}
	bad := []string{"", "true", "false", "silent", "abcdefghi", strings.Repeat("a", 1<<20), "A", "aB", "`", "{", "a`", "{a", "a1", "1",
		" ", "a ", " a", "a b", "a\n", "a\x00", "é", "a\xff", "a-b", "a_b", "TRUE"}
	for _, name := range bad {
		if e := Check(named(name)); e != api.ErrArg {
			t.Errorf("%.20q: %v", name, e)
		}
	}
}

func TestCheckEachByteOfAName(t *testing.T) {
	for b := range 256 {
		want := api.ErrArg
		if b >= 97 && b <= 122 {
			want = api.OK
		}
		for _, bytes := range [][]byte{{byte(b), 'q'}, {'q', byte(b)}, {'q', byte(b), 'q'}} {
			if e := Check(named(string(bytes))); e != want {
				t.Errorf("%q: %v", bytes, e)
			}
		}
	}
}

func TestCheckKind(t *testing.T) {
	for _, kind := range []int{math.MinInt, -1, 0, 8, 9, 63, 256 + api.NEnd, math.MaxInt} {
		p := line(0)
		p.Nodes[1].Kind = kind
		if e := Check(p); e != api.ErrArg {
			t.Error(kind, e)
		}
	}
}

func TestCheckNothing(t *testing.T) {
	for _, p := range []api.Process{{}, {Nodes: []api.Node{}, Flows: []api.Flow{}}} {
		if e := Check(p); e != api.ErrArg {
			t.Error(e)
		}
	}
}

func TestCheckLarge(t *testing.T) {
	if e := Check(line(api.MaxNodes - 2)); e != api.OK {
		t.Error("as many nodes as there may be:", e)
	}
	if e := Check(line(api.MaxNodes - 1)); e != api.ErrLarge {
		t.Error("a node more:", e)
	}
	most := line(1)
	most.Nodes[1].Kind = api.NXor
	for len(most.Flows) < api.MaxFlows {
		most.Flows = append(most.Flows, flow(1, 2))
	}
	if e := Check(most); e != api.OK {
		t.Error("as many flows as there may be:", e)
	}
	most.Flows = append(most.Flows, flow(1, 2))
	if e := Check(most); e != api.ErrLarge {
		t.Error("a flow more:", e)
	}
	if e := Check(api.Process{Nodes: make([]api.Node, api.MaxNodes+1)}); e != api.ErrLarge {
		t.Error("too many nodes that are none:", e)
	}
	if e := Check(api.Process{Flows: make([]api.Flow, api.MaxFlows+1)}); e != api.ErrLarge {
		t.Error("too many flows, no node:", e)
	}
}

// mayHave is the table of the document.
func mayHave(kind, ins, outs int) bool {
	table := map[int]struct{ leastIn, mostIn, leastOut, mostOut int }{
		1: {0, 0, 1, 1},
		2: {1, 99, 0, 0},
		3: {1, 99, 0, 0},
		4: {1, 99, 1, 1},
		5: {1, 99, 1, 99},
		6: {1, 99, 1, 99},
		7: {1, 99, 1, 4},
	}
	row := table[kind]
	return ins >= row.leastIn && ins <= row.mostIn && outs >= row.leastOut && outs <= row.mostOut
}

func TestCheckFlowsOfKinds(t *testing.T) {
	for kind := api.NEnd; kind <= api.NOr; kind++ {
		for ins := range 8 {
			for outs := range 8 {
				want := api.ErrArg
				if mayHave(kind, ins, outs) {
					want = api.OK
				}
				if e := Check(around(kind, ins, outs)); e != want {
					t.Error("kind", kind, "ins", ins, "outs", outs, ":", e)
				}
			}
		}
	}
}

func TestCheckFlowsOfStart(t *testing.T) {
	for ins := range 4 {
		for outs := range 4 {
			want := api.ErrArg
			if mayHave(api.NStart, ins, outs) {
				want = api.OK
			}
			if e := Check(startAlone(ins, outs)); e != want {
				t.Error("ins", ins, "outs", outs, ":", e)
			}
		}
	}
}

func TestCheckFlowEnds(t *testing.T) {
	for _, wrong := range []int{math.MinInt, -1, 3, 4, math.MaxInt} {
		for at := range 2 {
			p := line(1)
			p.Flows[at].From = wrong
			if e := Check(p); e != api.ErrArg {
				t.Error("from", wrong, e)
			}
			p = line(1)
			p.Flows[at].To = wrong
			if e := Check(p); e != api.ErrArg {
				t.Error("to", wrong, e)
			}
		}
	}
	if e := Check(api.Process{Flows: []api.Flow{flow(0, 0)}}); e != api.ErrArg {
		t.Error("a flow and no node:", e)
	}
}

func TestCheckStarts(t *testing.T) {
	two := api.Process{
		Nodes: []api.Node{node(api.NStart, "a"), node(api.NStart, "b"), node(api.NEnd, "c")},
		Flows: []api.Flow{flow(0, 2), flow(1, 2)},
	}
	if e := Check(two); e != api.ErrArg {
		t.Error("two starts:", e)
	}
	round := api.Process{
		Nodes: []api.Node{node(api.NTask, "a"), node(api.NTask, "b")},
		Flows: []api.Flow{flow(0, 1), flow(1, 0)},
	}
	if e := Check(round); e != api.ErrArg {
		t.Error("no start:", e)
	}
	late := api.Process{
		Nodes: []api.Node{node(api.NEnd, "c"), node(api.NTask, "b"), node(api.NStart, "a")},
		Flows: []api.Flow{flow(1, 0), flow(2, 1)},
	}
	if e := Check(late); e != api.OK {
		t.Error("a start that is the last node:", e)
	}
}

func TestCheckReach(t *testing.T) {
	apart := line(0)
	apart.Nodes = append(apart.Nodes, node(api.NTask, "t"))
	apart.Flows = append(apart.Flows, flow(2, 2))
	if e := Check(apart); e != api.ErrReach {
		t.Error("a node that goes to itself alone:", e)
	}
	// What leads to the end can't be come to itself.
	back := line(0)
	back.Nodes = append(back.Nodes, node(api.NXor, "x"))
	back.Flows = append(back.Flows, flow(2, 2), flow(2, 1))
	if e := Check(back); e != api.ErrReach {
		t.Error("a node with a flow to one that is reached:", e)
	}
	far := line(api.MaxNodes - 2)
	if e := Check(far); e != api.OK {
		t.Error("a node far away:", e)
	}
}

func TestCheckNoEndIsAsked(t *testing.T) {
	p := api.Process{
		Nodes: []api.Node{node(api.NStart, "a"), node(api.NTask, "b")},
		Flows: []api.Flow{flow(0, 1), flow(1, 1)},
	}
	if e := Check(p); e != api.OK {
		t.Error(e)
	}
}

func TestCheckOwnAndDoubleFlows(t *testing.T) {
	p := api.Process{
		Nodes: []api.Node{node(api.NStart, "a"), node(api.NOr, "o"), node(api.NStop, "s")},
		Flows: []api.Flow{flow(0, 1), flow(1, 1), flow(1, 1), flow(1, 2), flow(1, 2)},
	}
	if e := Check(p); e != api.OK {
		t.Error(e)
	}
}

// The one that is told first is the answer.
func TestCheckOrder(t *testing.T) {
	lost := api.Process{
		Nodes: []api.Node{node(api.NStart, "a"), node(api.NEnd, "b"), node(api.NXor, "x"), node(api.NXor, "y")},
		Flows: []api.Flow{flow(0, 1), flow(2, 3), flow(3, 2)},
	}
	change := func(do func(p *api.Process)) api.Process {
		p := api.Process{Nodes: slices.Clone(lost.Nodes), Flows: slices.Clone(lost.Flows)}
		do(&p)
		return p
	}
	for _, c := range []struct {
		what string
		p    api.Process
		want api.Errno
	}{
		{"nothing else than a node that can't be come to", lost, api.ErrReach},
		{"a kind's flows ahead of reach", change(func(p *api.Process) { p.Nodes[3].Kind = api.NEnd }), api.ErrArg},
		{"a second start ahead of reach", change(func(p *api.Process) { p.Nodes[3].Kind = api.NStart }), api.ErrArg},
		{"a flow's end ahead of reach", change(func(p *api.Process) { p.Flows[2].To = 4 }), api.ErrArg},
		{"a name twice ahead of reach", change(func(p *api.Process) { p.Nodes[3].Name = "x" }), api.ErrName},
		{"a name twice ahead of a flow's end", change(func(p *api.Process) { p.Nodes[3].Name = "a"; p.Flows[0].From = -1 }), api.ErrName},
		{"a name twice ahead of two starts", change(func(p *api.Process) { p.Nodes[3] = p.Nodes[0] }), api.ErrName},
		{"a name twice ahead of flows that don't fit", change(func(p *api.Process) { p.Nodes[3].Name = "x"; p.Flows = nil }), api.ErrName},
		{"a bad name ahead of a later name twice", change(func(p *api.Process) { p.Nodes[1].Name = "B"; p.Nodes[3].Name = "x" }), api.ErrArg},
		{"a bad kind ahead of a later name twice", change(func(p *api.Process) { p.Nodes[1].Kind = 8; p.Nodes[3].Name = "x" }), api.ErrArg},
		{"a name twice ahead of a later bad name", change(func(p *api.Process) { p.Nodes[1].Name = "a"; p.Nodes[2].Name = "" }), api.ErrName},
		{"a name twice ahead of a later bad kind", change(func(p *api.Process) { p.Nodes[1].Name = "a"; p.Nodes[2].Kind = 0 }), api.ErrName},
		{"a bad kind with a name twice", change(func(p *api.Process) { p.Nodes[3] = node(0, "x") }), api.ErrArg},
		{"a bad name twice", change(func(p *api.Process) { p.Nodes[1].Name = "true"; p.Nodes[3].Name = "true" }), api.ErrArg},
		{"too many flows ahead of a bad name", change(func(p *api.Process) { p.Nodes[0].Name = ""; p.Flows = make([]api.Flow, 31) }), api.ErrLarge},
		{"too many nodes ahead of a name twice", change(func(p *api.Process) { p.Nodes = make([]api.Node, 21) }), api.ErrLarge},
	} {
		if e := Check(c.p); e != c.want {
			t.Error(c.what, ":", e, "want", c.want)
		}
	}
}

func TestInsOuts(t *testing.T) {
	p := api.Process{
		Nodes: []api.Node{node(api.NStart, "a"), node(api.NOr, "o"), node(api.NAnd, "n"), node(api.NStop, "s")},
		Flows: []api.Flow{flow(2, 1), flow(1, 3), flow(1, 1), flow(0, 1), flow(1, 2), flow(2, 1), flow(1, 2)},
	}
	ins := [][]int{{}, {0, 2, 3, 5}, {4, 6}, {1}}
	outs := [][]int{{3}, {1, 2, 4, 6}, {0, 5}, {}}
	for n := range p.Nodes {
		if l, e := Ins(p, n); e != api.OK || !slices.Equal(l, ins[n]) {
			t.Error("ins of", n, l, e)
		}
		if l, e := Outs(p, n); e != api.OK || !slices.Equal(l, outs[n]) {
			t.Error("outs of", n, l, e)
		}
	}
}

func TestInsOutsOfNoNode(t *testing.T) {
	p := line(1)
	for _, n := range []int{math.MinInt, -1, 3, 4, math.MaxInt} {
		if l, e := Ins(p, n); e != api.ErrArg || l != nil {
			t.Error("ins of", n, l, e)
		}
		if l, e := Outs(p, n); e != api.ErrArg || l != nil {
			t.Error("outs of", n, l, e)
		}
	}
}

func TestInsOutsCheckFirst(t *testing.T) {
	wrong := map[api.Errno]api.Process{
		api.ErrArg:   {},
		api.ErrLarge: line(api.MaxNodes),
		api.ErrName:  named(nameOf(0)),
		api.ErrReach: {Nodes: append(line(0).Nodes, node(api.NTask, "t")), Flows: []api.Flow{flow(0, 1), flow(2, 2)}},
	}
	for want, p := range wrong {
		for _, n := range []int{0, -1} {
			if l, e := Ins(p, n); e != want || l != nil {
				t.Error("ins:", l, e, "want", want)
			}
			if l, e := Outs(p, n); e != want || l != nil {
				t.Error("outs:", l, e, "want", want)
			}
		}
	}
}
