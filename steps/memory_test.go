package steps

import (
	"slices"
	"testing"

	"watchway/api"
)

// mark is what stands in the room behind lists; no answer has it.
const mark = -77

const allKinds = "start a\nor b\ntask c\nxor d\nand e\nand f\nend g\nstop h\n" +
	"flow a b\nflow b c\nflow b d\nflow c d\nflow d e\nflow e f\nflow e f\nflow f g\nflow d h\n"

// allKindsSteps are those of the text above.
func allKindsSteps() []api.Step {
	return []api.Step{step(1, -1, 1), step(1, -1, 2), step(1, -1, 3), step(2, 1, 1), step(3, 2, 1), step(3, 2, 2), step(3, 3, 1), step(3, 3, 2),
		step(4, -1, 3), step(5, -1, 1), step(6, 7, 0), step(7, 8, 0)}
}

// roomy is a process with marked room behind its lists.
func roomy(t *testing.T) api.Process {
	t.Helper()
	p := read(t, allKinds)
	nodes := append(slices.Clip(p.Nodes), node(mark, "mark"), node(mark, "mark"))
	flows := append(slices.Clip(p.Flows), flow(mark, mark), flow(mark, mark))
	return api.Process{Nodes: nodes[:len(p.Nodes)], Flows: flows[:len(p.Flows)]}
}

// same tells whether two processes are, the room behind their lists included.
func same(p, q api.Process) bool {
	return slices.Equal(p.Nodes[:cap(p.Nodes)], q.Nodes[:cap(q.Nodes)]) && slices.Equal(p.Flows[:cap(p.Flows)], q.Flows[:cap(q.Flows)])
}

// fill overwrites a list and its spare room.
func fill[T any](list []T, with T) {
	list = list[:cap(list)]
	for i := range list {
		list[i] = with
	}
}

func TestHandedInStays(t *testing.T) {
	p := roomy(t)
	want(t, p, allKindsSteps()...)
	if !same(p, roomy(t)) {
		t.Error(p)
	}
	large := row(5)
	large.Nodes, large.Flows = slices.Grow(large.Nodes, 3), slices.Grow(large.Flows, 3)
	fill(large.Nodes[len(large.Nodes):], node(mark, "mark"))
	fill(large.Flows[len(large.Flows):], flow(mark, mark))
	ahead := api.Process{Nodes: slices.Clone(large.Nodes[:cap(large.Nodes)]), Flows: slices.Clone(large.Flows[:cap(large.Flows)])}
	refuse(t, large, api.ErrLarge)
	if !slices.Equal(large.Nodes[:cap(large.Nodes)], ahead.Nodes) || !slices.Equal(large.Flows[:cap(large.Flows)], ahead.Flows) {
		t.Error(large)
	}
}

func TestAnswerStandsAlone(t *testing.T) {
	p := roomy(t)
	first, _ := Of(p)
	fill(p.Nodes, node(mark, "spoilt"))
	fill(p.Flows, flow(mark, mark))
	if !slices.Equal(first, allKindsSteps()) {
		t.Error(first)
	}
	p = roomy(t)
	second, _ := Of(p)
	third, _ := Of(p)
	fill(first, step(mark, mark, mark))
	fill(second, step(mark, mark, mark))
	if !slices.Equal(third, allKindsSteps()) || !same(p, roomy(t)) {
		t.Error(third, p)
	}
	want(t, p, allKindsSteps()...)
}

// An error at one call leaves nothing for the next one.
func TestNothingIsKept(t *testing.T) {
	for _, p := range []api.Process{{}, row(5), fan(api.NTask, 2)} {
		Of(p)
		want(t, roomy(t), allKindsSteps()...)
	}
}
