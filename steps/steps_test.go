package steps

import (
	"math"
	"slices"
	"testing"

	"watchway/api"
	"watchway/proc"
)

// node is a short way to write a node.
func node(kind int, name string) api.Node { return api.Node{Name: name, Kind: kind} }

// flow is a short way to write a flow.
func flow(from, to int) api.Flow { return api.Flow{From: from, To: to} }

// step is a short way to write a step.
func step(node, in, out int) api.Step { return api.Step{Node: node, In: in, Out: out} }

// read is the process of a text.
func read(t *testing.T, s string) api.Process {
	t.Helper()
	p, at, e := proc.Parse(s)
	if e != api.OK {
		t.Fatalf("%q: %v at %d", s, e, at)
	}
	return p
}

// want holds the steps of a process against those that it has.
func want(t *testing.T, p api.Process, steps ...api.Step) {
	t.Helper()
	if got, e := Of(p); e != api.OK || !slices.Equal(got, steps) {
		t.Error(got, e, "want", steps)
	}
}

// refuse asks for an error, and no steps beside it.
func refuse(t *testing.T, p api.Process, want api.Errno) {
	t.Helper()
	if got, e := Of(p); e != want || got != nil {
		t.Error(got, e, "want", want)
	}
}

func TestOfLeastProcess(t *testing.T) {
	want(t, read(t, "start a\nend b\nflow a b\n"), step(1, 0, 0))
	want(t, read(t, "start a\nstop b\nflow a b\n"), step(1, 0, 0))
	want(t, read(t, "end b\nstart a\nflow a b\n"), step(0, 0, 0))
}

func TestOfTask(t *testing.T) {
	want(t, read(t, "start a\ntask b\nend c\nflow b c\nflow a b\n"), step(1, 1, 1), step(2, 0, 0))
	// A task may take from several flows, one from itself among them; its one flow out has the bit 1 wherever it stands.
	want(t, read(t, "start a\nxor x\ntask b\nflow b x\nflow x b\nflow x b\nflow a x\n"),
		step(1, 0, 1), step(1, 0, 2), step(1, 3, 1), step(1, 3, 2), step(2, 1, 1), step(2, 2, 1))
	want(t, read(t, "start a\ntask b\nflow a b\nflow b b\n"), step(1, 0, 1), step(1, 1, 1))
}

func TestOfXor(t *testing.T) {
	want(t, read(t, "start a\nxor x\nend b\nflow a x\nflow x b\n"), step(1, 0, 1), step(2, 1, 0))
	// The bits go by the place among the flows out, not by the flow's number.
	want(t, read(t, "start a\nxor x\nend b\nflow x b\nflow x x\nflow a x\nflow x b\n"),
		step(1, 1, 1), step(1, 1, 2), step(1, 1, 4), step(1, 2, 1), step(1, 2, 2), step(1, 2, 4), step(2, 0, 0), step(2, 3, 0))
}

func TestOfAnd(t *testing.T) {
	want(t, read(t, "start a\nand x\nend b\nflow a x\nflow x b\n"), step(1, -1, 1), step(2, 1, 0))
	want(t, read(t, "start a\nand x\nand y\nend b\nflow a x\nflow x y\nflow x y\nflow x y\nflow y b\n"),
		step(1, -1, 7), step(2, -1, 1), step(3, 4, 0))
	want(t, read(t, "start a\nand x\nflow a x\nflow x x\n"), step(1, -1, 1))
}

func TestOfOr(t *testing.T) {
	want(t, read(t, "start a\nor x\nend b\nflow a x\nflow x b\n"), step(1, -1, 1), step(2, 1, 0))
	want(t, read(t, "start a\nor x\nor y\nend b\nflow a x\nflow x y\nflow x y\nflow x y\nflow y b\n"),
		step(1, -1, 1), step(1, -1, 2), step(1, -1, 3), step(1, -1, 4), step(1, -1, 5), step(1, -1, 6), step(1, -1, 7), step(2, -1, 1), step(3, 4, 0))
	four := []api.Step{}
	for number := 1; number <= 15; number++ {
		four = append(four, step(1, -1, number))
	}
	want(t, read(t, "start a\nor x\nflow a x\nflow x x\nflow x x\nflow x x\nflow x x\n"), four...)
}

func TestOfEndAndStop(t *testing.T) {
	want(t, read(t, "start a\nstop c\nxor x\nend b\nflow x b\nflow x c\nflow x c\nflow x b\nflow a x\n"),
		step(1, 1, 0), step(1, 2, 0), step(2, 4, 1), step(2, 4, 2), step(2, 4, 4), step(2, 4, 8), step(3, 0, 0), step(3, 3, 0))
}

// fan is a process of a start, a node of that kind and an end to which so many flows go from it.
func fan(kind, outs int) api.Process {
	p := api.Process{Nodes: []api.Node{node(api.NStart, "a"), node(kind, "x"), node(api.NEnd, "b")}}
	p.Flows = []api.Flow{flow(0, 1)}
	for range outs {
		p.Flows = append(p.Flows, flow(1, 2))
	}
	return p
}

// As many flows out as a process may have.
func TestOfWidest(t *testing.T) {
	var chosen, ends []api.Step
	for i := range api.MaxFlows - 1 {
		chosen = append(chosen, step(1, 0, int(math.Pow(2, float64(i)))))
		ends = append(ends, step(2, i+1, 0))
	}
	want(t, fan(api.NXor, api.MaxFlows-1), slices.Concat(chosen, ends)...)
	want(t, fan(api.NAnd, api.MaxFlows-1), append([]api.Step{step(1, -1, 536870911)}, ends...)...)
}

// row is a start and so many NOr behind each other with 15 steps each: no other node has a step.
func row(ors int) api.Process {
	p := api.Process{Nodes: []api.Node{node(api.NStart, "start")}}
	for i := range ors {
		p.Nodes = append(p.Nodes, node(api.NOr, string(rune('a'+i))))
		p.Flows = append(p.Flows, flow(i, i+1), flow(i+1, i+1), flow(i+1, i+1), flow(i+1, i+1))
	}
	p.Flows = append(p.Flows, flow(ors, ors))
	return p
}

// ahead lays a node of that kind between the start and what stood behind it.
func ahead(p api.Process, kind int) api.Process {
	p.Nodes = append(p.Nodes, node(kind, "more"))
	p.Flows = append(p.Flows, flow(0, len(p.Nodes)-1))
	p.Flows[0].From = len(p.Nodes) - 1
	return p
}

func TestOfMaxSteps(t *testing.T) {
	full := row(4)
	got, e := Of(full)
	if e != api.OK || len(got) != api.MaxSteps {
		t.Fatal(len(got), e)
	}
	for i, s := range got {
		if s != step(1+i/15, -1, 1+i%15) {
			t.Error(i, s)
		}
	}
	for _, kind := range []int{api.NTask, api.NXor, api.NAnd, api.NOr} {
		if got, e := Of(ahead(row(3), kind)); e != api.OK || len(got) != 46 {
			t.Error(kind, len(got), e)
		}
		refuse(t, ahead(row(4), kind), api.ErrLarge)
	}
	refuse(t, row(5), api.ErrLarge)
}

// One node alone may have too many: k flows of an NXor to itself make k+1 ways in and k ways out.
func TestOfLargeXor(t *testing.T) {
	for k := 1; k < api.MaxFlows; k++ {
		p := api.Process{Nodes: []api.Node{node(api.NStart, "a"), node(api.NXor, "x")}, Flows: []api.Flow{flow(0, 1)}}
		for range k {
			p.Flows = append(p.Flows, flow(1, 1))
		}
		if k > 7 {
			refuse(t, p, api.ErrLarge)
		} else if got, e := Of(p); e != api.OK || len(got) != (k+1)*k {
			t.Error(k, len(got), e)
		}
	}
}

func TestOfChecksFirst(t *testing.T) {
	refuse(t, api.Process{}, api.ErrArg)
	least := func() api.Process { return fan(api.NXor, 1) }
	p := least()
	p.Nodes[2].Name = "x"
	refuse(t, p, api.ErrName)
	p = least()
	p.Nodes[1].Kind = 0
	refuse(t, p, api.ErrArg)
	p = least()
	p.Nodes[1].Kind = math.MinInt
	refuse(t, p, api.ErrArg)
	p = least()
	p.Flows[1].To = math.MaxInt
	refuse(t, p, api.ErrArg)
	p = least()
	p.Flows[1].From = -1
	refuse(t, p, api.ErrArg)
	refuse(t, fan(api.NOr, api.MaxOuts+1), api.ErrArg)
	refuse(t, fan(api.NTask, 2), api.ErrArg)
	refuse(t, fan(api.NAnd, api.MaxFlows), api.ErrLarge)
	p = least()
	p.Nodes = append(p.Nodes, node(api.NTask, "t"))
	p.Flows = append(p.Flows, flow(3, 3))
	refuse(t, p, api.ErrReach)
}

// What Check tells comes ahead of too many steps.
func TestOfChecksAheadOfLarge(t *testing.T) {
	alone := func() api.Process {
		p := row(5)
		p.Nodes = append(p.Nodes, node(api.NTask, "t"))
		p.Flows = append(p.Flows, flow(6, 6))
		return p
	}
	refuse(t, alone(), api.ErrReach)
	p := alone()
	p.Nodes[6].Name = "a"
	refuse(t, p, api.ErrName)
	p.Nodes[6].Name = ""
	refuse(t, p, api.ErrArg)
}
