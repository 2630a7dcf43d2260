package runs

import (
	"slices"
	"testing"

	"watchway/api"
)

// spoilt is what stands in the room behind lists, and what answers are overwritten with; no answer has it.
const spoilt = -77

// roomy is the process of a text with marked room behind its lists.
func roomy(t *testing.T, text string) api.Process {
	t.Helper()
	p := read(t, text)
	nodes := append(slices.Clip(p.Nodes), api.Node{Name: "spoilt", Kind: spoilt}, api.Node{})
	flows := append(slices.Clip(p.Flows), api.Flow{From: spoilt, To: spoilt}, api.Flow{})
	return api.Process{Nodes: nodes[:len(p.Nodes)], Flows: flows[:len(p.Flows)]}
}

// samePlace tells whether two processes are the same, the room behind their lists included.
func samePlace(p, q api.Process) bool {
	return slices.Equal(p.Nodes[:cap(p.Nodes)], q.Nodes[:cap(q.Nodes)]) && slices.Equal(p.Flows[:cap(p.Flows)], q.Flows[:cap(q.Flows)])
}

// fill overwrites a list and its spare room.
func fill[T any](list []T, with T) {
	list = list[:cap(list)]
	for i := range list {
		list[i] = with
	}
}

// asked is texts of processes that are answered in each way.
func asked() []string {
	return []string{least, loop, halt, aside, stuck, some, heap, wide(11, 1), wide(11, 2)}
}

// clone is a copy of an answer.
func (a answer) clone() answer {
	lists := func(lists [][]int) [][]int {
		var out [][]int
		for _, list := range lists {
			out = append(out, slices.Clone(list))
		}
		return out
	}
	return answer{
		api.World{Start: slices.Clone(a.w.Start), Next: lists(a.w.Next), Label: slices.Clone(a.w.Label), Fair: lists(a.w.Fair)},
		slices.Clone(a.of),
	}
}

// spoil overwrites all lists of an answer, room included.
func (a answer) spoil() {
	for _, list := range slices.Concat(a.w.Next, a.w.Fair, [][]int{a.w.Start}) {
		fill(list, spoilt)
	}
	fill(a.w.Next, nil)
	fill(a.w.Fair, nil)
	fill(a.w.Label, 0)
	fill(a.of, api.Edge{Step: spoilt, To: spoilt})
}

func TestHandedInStays(t *testing.T) {
	for _, text := range asked() {
		for _, states := range []int{0, 3, 200} {
			p := roomy(t, text)
			Of(p, 2, states)
			if !samePlace(p, roomy(t, text)) {
				t.Error(text, p)
			}
		}
	}
}

// What was answered stays when what was handed in is overwritten.
func TestHandedInIsNotKept(t *testing.T) {
	for _, text := range asked() {
		p := roomy(t, text)
		w, of, e := Of(p, 2, 200)
		fill(p.Nodes, api.Node{Name: "spoilt", Kind: spoilt})
		fill(p.Flows, api.Flow{From: spoilt, To: spoilt})
		wantW, wantOf, wantE := Of(read(t, text), 2, 200)
		if want := (answer{wantW, wantOf}); e != wantE || !want.same(answer{w, of}) {
			t.Error(text, w, of, e, "want", want, wantE)
		}
	}
}

// numbers are all lists of numbers of an answer.
func (a answer) numbers() []*[]int {
	list := []*[]int{&a.w.Start}
	for i := range a.w.Next {
		list = append(list, &a.w.Next[i])
	}
	for i := range a.w.Fair {
		list = append(list, &a.w.Fair[i])
	}
	return list
}

// No two lists of numbers lie at one place, their spare room included, nor do those of two answers.
func TestListsLieApart(t *testing.T) {
	for _, text := range asked() {
		lies := map[*int]int{}
		for range 2 {
			w, of, _ := Of(read(t, text), 2, 200)
			for _, list := range (answer{w, of}).numbers() {
				whole := (*list)[:cap(*list)]
				for i := range whole {
					lies[&whole[i]]++
				}
			}
		}
		for _, times := range lies {
			if times > 1 {
				t.Fatal(text, "shares memory")
			}
		}
	}
}

// Each list of an answer can be overwritten, its room included, and the others stay.
func TestAnswersStandAlone(t *testing.T) {
	for _, text := range []string{least, loop, halt, aside, stuck, some} {
		p := read(t, text)
		want := answered(t, p, 2, 200)
		for i := range want.numbers() {
			got, whole := answered(t, p, 2, 200), want.clone()
			list := got.numbers()[i]
			fill(*list, spoilt)
			// The list that was overwritten is left out of what is held against each other.
			kept := slices.Clone(*want.numbers()[i])
			copy(*list, kept)
			if !whole.same(got) {
				t.Error(text, i, got, "want", whole)
			}
		}
		got := answered(t, p, 2, 200)
		fill(got.w.Label, 0)
		got.w.Label = want.w.Label
		fill(got.of, api.Edge{Step: spoilt, To: spoilt})
		got.of = want.of
		if !want.same(got) {
			t.Error(text, got, "want", want)
		}
	}
}

// An answer that is spoilt alters no later one, and an error leaves nothing behind.
func TestNothingIsKept(t *testing.T) {
	for _, text := range asked() {
		w, of, e := Of(read(t, text), 2, 200)
		a := answer{w, of}
		want := a.clone()
		a.spoil()
		for _, other := range asked() {
			Of(read(t, other), 2, 3)
		}
		w, of, again := Of(read(t, text), 2, 200)
		if again != e || !want.same(answer{w, of}) {
			t.Error(text, w, of, again, "want", want, e)
		}
	}
}
