package sound

import (
	"slices"
	"testing"

	"watchway/api"
)

// spoilt is what stands in the room behind lists, and what answers are overwritten with; no answer has it.
const spoilt = -77

// roomy is the process of a text with marked room behind its lists.
func roomy(t *testing.T, text string) api.Process {
	t.Helper()
	p := read(t, text)
	nodes := append(slices.Clip(p.Nodes), api.Node{Name: "spoilt", Kind: spoilt}, api.Node{})
	flows := append(slices.Clip(p.Flows), api.Flow{From: spoilt, To: spoilt}, api.Flow{})
	return api.Process{Nodes: nodes[:len(p.Nodes)], Flows: flows[:len(p.Flows)]}
}

// same tells whether two processes are, the room behind their lists included.
func same(p, q api.Process) bool {
	return slices.Equal(p.Nodes[:cap(p.Nodes)], q.Nodes[:cap(q.Nodes)]) && slices.Equal(p.Flows[:cap(p.Flows)], q.Flows[:cap(q.Flows)])
}

// fill overwrites a list and its spare room.
func fill[T any](list []T, with T) {
	list = list[:cap(list)]
	for i := range list {
		list[i] = with
	}
}

// trap is a process whose Still and Never are one marking, to which more than one step leads: both lists are alike.
// 0: x to e; 1: x to y; 2: y to e; 3: y to j; 4: j; 5 to 7: e.
const trap = "start a\nxor x\nxor y\nand j\nend e\nflow a x\nflow x e\nflow x y\nflow y e\nflow y j\nflow j j\nflow j e\n"

// asked is texts of processes that are answered in each way.
var asked = []string{stuck, hungry, trap, loop, both, heap}

func TestHandedInStays(t *testing.T) {
	for _, text := range asked {
		for _, states := range []int{0, 3, 200} {
			p := roomy(t, text)
			Look(p, 2, states)
			if !same(p, roomy(t, text)) {
				t.Error(text, p)
			}
		}
	}
}

// What was answered stays when what was handed in is overwritten.
func TestHandedInIsNotKept(t *testing.T) {
	for _, text := range asked {
		p := roomy(t, text)
		got, e := Look(p, 2, 200)
		fill(p.Nodes, api.Node{Name: "spoilt", Kind: spoilt})
		fill(p.Flows, api.Flow{From: spoilt, To: spoilt})
		if want, wantE := Look(read(t, text), 2, 200); e != wantE || !sameFinding(got, want) {
			t.Error(text, got, e, "want", want, wantE)
		}
	}
}

// Each list of an answer can be overwritten, its room included, and the others stay; the next call answers as before.
func TestAnswersStandAlone(t *testing.T) {
	for _, text := range asked {
		p := read(t, text)
		want, _ := Look(p, 2, 200)
		want.Dead, want.ToStill, want.ToNever = slices.Clone(want.Dead), slices.Clone(want.ToStill), slices.Clone(want.ToNever)
		for i := range 3 {
			got, _ := Look(p, 2, 200)
			list := []*[]int{&got.Dead, &got.ToStill, &got.ToNever}[i]
			fill(*list, spoilt)
			*list = [][]int{want.Dead, want.ToStill, want.ToNever}[i]
			if !sameFinding(got, want) {
				t.Error(text, i, got, "want", want)
			}
		}
	}
}

func TestTrap(t *testing.T) {
	finds(t, read(t, trap), 1, 6, api.Finding{Dead: []int{3}, Still: 5, Never: 5, ToStill: []int{1, 3}, ToNever: []int{1, 3}})
}
