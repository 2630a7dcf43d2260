package game

import (
	"slices"
	"testing"

	"watchway/api"
)

// spoilt is what stands in the room behind lists, and what answers are overwritten with; no answer has it.
const spoilt = -77

// Steps: 0 to 2: b; 3: c; 4 to 7: d; 8: e; 9: f; 10: g; 11: h.
const allKinds = "start a\nor b\ntask c\nxor d\nand e\nand f\nend g\nstop h\n" +
	"flow a b\nflow b c\nflow b d\nflow c d\nflow d e\nflow e f\nflow e f\nflow f g\nflow d h\n"

// roomy is a process with marked room behind its lists.
func roomy(t *testing.T) api.Process {
	t.Helper()
	p := read(t, allKinds)
	nodes := append(slices.Clip(p.Nodes), api.Node{Name: "spoilt", Kind: spoilt}, api.Node{})
	flows := append(slices.Clip(p.Flows), api.Flow{From: spoilt, To: spoilt}, api.Flow{})
	return api.Process{Nodes: nodes[:len(p.Nodes)], Flows: flows[:len(p.Flows)]}
}

// roomyList is a list with marked room behind it.
func roomyList(list ...int) []int {
	return append(slices.Clip(list), spoilt, spoilt, spoilt)[:len(list)]
}

// same tells whether two processes are, the room behind their lists included.
func same(p, q api.Process) bool {
	return slices.Equal(p.Nodes[:cap(p.Nodes)], q.Nodes[:cap(q.Nodes)]) && slices.Equal(p.Flows[:cap(p.Flows)], q.Flows[:cap(q.Flows)])
}

// fill overwrites a list and its spare room.
func fill[T any](list []T, with T) {
	list = list[:cap(list)]
	for i := range list {
		list[i] = with
	}
}

// answers is what all calls answer of one process, with a marking, a step and steps that are played.
func answers(p api.Process, mark []int, step int, l []int) [][]int {
	begin, _ := Begin(p)
	enabled, _ := Enabled(p, mark)
	after, _ := Fire(p, mark, step)
	marks, _, _ := Play(p, l)
	return append([][]int{begin, enabled, after}, marks...)
}

// Steps of each kind, and such as are refused in each way.
func asked() []struct {
	mark []int
	step int
	l    []int
} {
	return []struct {
		mark []int
		step int
		l    []int
	}{
		{[]int{1, 0, 0, 0, 0, 0, 0, 0, 0}, 2, []int{2, 3, 4, 6, 8, 8, 9, 9, 10, 10}},
		{[]int{0, 1, 1, 0, 0, 0, 0, 0, 0}, 3, []int{0, 3, 7, 11}},
		{[]int{0, 0, 1, 1, 0, 0, 0, 0, 0}, 6, []int{1, 5, 11, 0}},
		{[]int{0, 0, 0, 0, 1, 0, 0, 0, 2}, 8, []int{2, -1}},
		{[]int{0, 0, 0, 0, 0, 1, 1, 0, 0}, 9, nil},
		{[]int{1, 2, 3, 4, 5, 6, 7, 8, 9}, 11, []int{2, 5, 11}},
		{[]int{0, 0, 0, 0, 0, 0, 0, 3, 9}, 10, []int{0}},
		{[]int{1, 9, 0, 0, 0, 0, 0, 0, 0}, 0, []int{12}},
		{[]int{0, 0, 0, 0, 0, 0, 0, 0, 0}, 0, make([]int, api.MaxPlay+1)},
		{[]int{1, 0, 0, 0, 0, 0, 0, 0, 0}, 12, []int{0, 0}},
		{[]int{1, 0, 0, 0, 0, 0, 0, 0, 10}, 0, []int{0, 0}},
	}
}

func TestHandedInStays(t *testing.T) {
	for _, a := range asked() {
		p, mark, l := roomy(t), roomyList(a.mark...), roomyList(a.l...)
		answers(p, mark, a.step, l)
		if !same(p, roomy(t)) {
			t.Error(a, p)
		}
		if !slices.Equal(mark[:cap(mark)], roomyList(a.mark...)[:cap(mark)]) || !slices.Equal(l[:cap(l)], roomyList(a.l...)[:cap(l)]) {
			t.Error(a, mark[:cap(mark)], l[:cap(l)])
		}
	}
}

// What was answered stays when what was handed in is overwritten.
func TestHandedInIsNotKept(t *testing.T) {
	for _, a := range asked() {
		p, mark, l := roomy(t), roomyList(a.mark...), roomyList(a.l...)
		got := answers(p, mark, a.step, l)
		fill(p.Nodes, api.Node{Name: "spoilt", Kind: spoilt})
		fill(p.Flows, api.Flow{From: spoilt, To: spoilt})
		fill(mark, spoilt)
		fill(l, spoilt)
		if want := answers(roomy(t), a.mark, a.step, a.l); !slices.EqualFunc(got, want, slices.Equal) {
			t.Error(got, "want", want)
		}
	}
}

// Each list of an answer can be overwritten, its room included, and all others stay, those handed in among them.
func TestAnswersStandAlone(t *testing.T) {
	for _, a := range asked() {
		want := answers(roomy(t), a.mark, a.step, a.l)
		for i := range want {
			p, mark, l := roomy(t), roomyList(a.mark...), roomyList(a.l...)
			got := answers(p, mark, a.step, l)
			fill(got[i], spoilt)
			for j := range want {
				if j != i && !slices.Equal(got[j], want[j]) {
					t.Error(i, j, got[j], "want", want[j])
				}
			}
			if !same(p, roomy(t)) || !slices.Equal(mark, a.mark) || !slices.Equal(l, a.l) {
				t.Error(i, p, mark, l)
			}
			if again := answers(p, mark, a.step, l); !slices.EqualFunc(again, want, slices.Equal) {
				t.Error(i, again, "want", want)
			}
		}
	}
}

// The list of markings can be overwritten, too, and no marking changes.
func TestListOfMarkings(t *testing.T) {
	p := roomy(t)
	l := []int{2, 3, 4, 6, 8, 8, 9, 9, 10, 10}
	marks, fired, e := Play(p, l)
	if e != api.OK || fired != len(l) {
		t.Fatal(marks, fired, e)
	}
	kept := slices.Clone(marks)
	fill(marks, []int{spoilt})
	if again, _, _ := Play(p, l); !slices.EqualFunc(kept, again, slices.Equal) {
		t.Error(kept, "want", again)
	}
}

// An error at one call leaves nothing for the next one.
func TestNothingIsKept(t *testing.T) {
	first := asked()[0]
	want := answers(roomy(t), first.mark, first.step, first.l)
	for _, a := range asked() {
		answers(api.Process{}, a.mark, a.step, a.l)
		answers(roomy(t), a.mark, a.step, a.l)
		if got := answers(roomy(t), first.mark, first.step, first.l); !slices.EqualFunc(got, want, slices.Equal) {
			t.Error(got, "want", want)
		}
	}
}
