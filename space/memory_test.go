package space

import (
	"slices"
	"testing"

	"watchway/api"
)

// spoilt is what stands in the room behind lists, and what answers are overwritten with; no answer has it.
const spoilt = -77

// roomy is the process of a text with marked room behind its lists.
func roomy(t *testing.T, text string) api.Process {
	t.Helper()
	p := read(t, text)
	nodes := append(slices.Clip(p.Nodes), api.Node{Name: "spoilt", Kind: spoilt}, api.Node{})
	flows := append(slices.Clip(p.Flows), api.Flow{From: spoilt, To: spoilt}, api.Flow{})
	return api.Process{Nodes: nodes[:len(p.Nodes)], Flows: flows[:len(p.Flows)]}
}

// same tells whether two processes are, the room behind their lists included.
func same(p, q api.Process) bool {
	return slices.Equal(p.Nodes[:cap(p.Nodes)], q.Nodes[:cap(q.Nodes)]) && slices.Equal(p.Flows[:cap(p.Flows)], q.Flows[:cap(q.Flows)])
}

// fill overwrites a list and its spare room.
func fill[T any](list []T, with T) {
	list = list[:cap(list)]
	for i := range list {
		list[i] = with
	}
}

// asked is processes and bounds that are answered in each way.
func asked() []struct {
	text           string
	tokens, states int
} {
	return []struct {
		text           string
		tokens, states int
	}{
		{loop, 1, 200},
		{both, 1, 7},
		{halt, 2, 9},
		{double, 2, 50},
		{lanes(3, 3), 1, 200},
		{loop, 1, 3},
		{double, 1, 50},
		{heap, 9, 200},
		{heap, 0, 200},
		{heap, 9, 201},
	}
}

// lists is all lists of numbers, and all of edges, that both calls answer.
func lists(p api.Process, tokens, states int) ([][]int, [][]api.Edge) {
	s, _ := Explore(p, tokens, states)
	route, _ := Route(p, tokens, states)
	return append(slices.Clone(s.Marks), route), slices.Clone(s.Next)
}

func TestHandedInStays(t *testing.T) {
	for _, a := range asked() {
		p := roomy(t, a.text)
		lists(p, a.tokens, a.states)
		if !same(p, roomy(t, a.text)) {
			t.Error(a, p)
		}
	}
}

// What was answered stays when what was handed in is overwritten.
func TestHandedInIsNotKept(t *testing.T) {
	for _, a := range asked() {
		p := roomy(t, a.text)
		got, gotEdges := lists(p, a.tokens, a.states)
		fill(p.Nodes, api.Node{Name: "spoilt", Kind: spoilt})
		fill(p.Flows, api.Flow{From: spoilt, To: spoilt})
		want, wantEdges := lists(read(t, a.text), a.tokens, a.states)
		if !slices.EqualFunc(got, want, slices.Equal) || !slices.EqualFunc(gotEdges, wantEdges, slices.Equal) {
			t.Error(a, got, gotEdges, "want", want, wantEdges)
		}
	}
}

// Each list of an answer can be overwritten, its room included, and all others stay.
func TestAnswersStandAlone(t *testing.T) {
	for _, a := range asked() {
		p := read(t, a.text)
		want, wantEdges := lists(p, a.tokens, a.states)
		for i := range want {
			got, gotEdges := lists(p, a.tokens, a.states)
			fill(got[i], spoilt)
			got[i] = want[i]
			if !slices.EqualFunc(got, want, slices.Equal) || !slices.EqualFunc(gotEdges, wantEdges, slices.Equal) {
				t.Error(a, i, got, gotEdges, "want", want, wantEdges)
			}
		}
		for i := range wantEdges {
			got, gotEdges := lists(p, a.tokens, a.states)
			fill(gotEdges[i], api.Edge{Step: spoilt, To: spoilt})
			gotEdges[i] = wantEdges[i]
			if !slices.EqualFunc(got, want, slices.Equal) || !slices.EqualFunc(gotEdges, wantEdges, slices.Equal) {
				t.Error(a, i, got, gotEdges, "want", want, wantEdges)
			}
		}
	}
}

// The lists of lists can be overwritten, too, and an answer that is spoilt leaves nothing for the next call.
func TestNothingIsKept(t *testing.T) {
	first := asked()[0]
	want, e := Explore(read(t, first.text), first.tokens, first.states)
	if e != api.OK {
		t.Fatal(e)
	}
	for _, a := range asked() {
		s, _ := Explore(read(t, a.text), a.tokens, a.states)
		l, _ := Route(read(t, a.text), a.tokens, a.states)
		for i := range s.Marks {
			fill(s.Marks[i], spoilt)
			fill(s.Next[i], api.Edge{Step: spoilt, To: spoilt})
		}
		fill(s.Marks, nil)
		fill(s.Next, nil)
		fill(l, spoilt)
		explores(t, read(t, first.text), first.tokens, first.states, want)
	}
}
