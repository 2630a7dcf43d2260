package runs

import (
	"math"
	"slices"
	"strings"
	"testing"

	"watchway/api"
	"watchway/proc"
	"watchway/space"
	"watchway/steps"
	"watchway/world"
)

// silent is the letter where nothing is done.
const silent = uint64(1) << 63

// read is the process of a text.
func read(t *testing.T, s string) api.Process {
	t.Helper()
	p, at, e := proc.Parse(s)
	if e != api.OK {
		t.Fatalf("%q: %v at %d", s, e, at)
	}
	return p
}

// answer is what Of answers beside an error.
type answer struct {
	w  api.World
	of []api.Edge
}

// same holds two answers against each other.
func (a answer) same(b answer) bool {
	return slices.Equal(a.w.Start, b.w.Start) && slices.EqualFunc(a.w.Next, b.w.Next, slices.Equal) &&
		slices.Equal(a.w.Label, b.w.Label) && slices.EqualFunc(a.w.Fair, b.w.Fair, slices.Equal) && slices.Equal(a.of, b.of)
}

// answered is what Of answers, where it has no error.
func answered(t *testing.T, p api.Process, tokens, states int) answer {
	t.Helper()
	w, of, e := Of(p, tokens, states)
	if e != api.OK {
		t.Fatal("up to", tokens, states, ":", e)
	}
	return answer{w, of}
}

// tells holds what Of answers against what should be answered.
func tells(t *testing.T, p api.Process, tokens, states int, want answer) {
	t.Helper()
	if w, of, e := Of(p, tokens, states); e != api.OK || !want.same(answer{w, of}) {
		t.Errorf("up to %d %d:\n%v %v %v\nwant\n%v %v", tokens, states, w, of, e, want.w, want.of)
	}
}

// refuses asks for an error, and nothing beside it.
func refuses(t *testing.T, p api.Process, tokens, states int, want api.Errno) {
	t.Helper()
	w, of, e := Of(p, tokens, states)
	if e != want || w.Start != nil || w.Next != nil || w.Label != nil || w.Fair != nil || of != nil {
		t.Error("up to", tokens, states, ":", w, of, e, "want", want)
	}
}

// pairs is steps and the markings at which they are done.
func pairs(list ...[2]int) []api.Edge {
	var of []api.Edge
	for _, pair := range list {
		of = append(of, api.Edge{Step: pair[0], To: pair[1]})
	}
	return of
}

// Texts of processes; what their steps are stands beside them.
const (
	least = "start a\nend b\nflow a b\n" // 0: b
	// 0: x from 0 to b; 1: x from 0 to c; 2: x from 2 to b; 3: x from 2 to c; 4: b; 5: c.
	loop = "start a\nxor x\ntask b\nend c\nflow a x\nflow x b\nflow b x\nflow x c\n"
	// 0: x; 1: c from 1; 2: d from 2.
	halt = "start a\nand x\nstop c\nend d\nflow a x\nflow x c\nflow x d\n"
	// 0: x; 1: y from 1; 2: y from 3, its own; 3: c. Beside y, which goes round, c may end.
	aside = "start a\nand x\ntask y\nend c\nflow a x\nflow x y\nflow x c\nflow y y\n"
	// 0: f to b; 1: f to c; 2: b; 3: c; 4: j; 5: e.
	stuck = "start a\nxor f\ntask b\ntask c\nand j\nend e\nflow a f\nflow f b\nflow f c\nflow b j\nflow c j\nflow j e\n"
	// 0 to 2: x; 3: y; 4: d.
	some = "start a\nor x\nor y\nend d\nflow a x\nflow x y\nflow x y\nflow y d\n"
	// m: 0: from a to f; 1: from a to j; 2: from f to f; 3: from f to j; 4: f; 5: j; 6: e.
	// Each way round by f leaves a token ahead of j.
	heap = "start a\nxor m\nand f\nand j\nend e\nflow a m\nflow m f\nflow f m\nflow f j\nflow m j\nflow j e\n"
)

func TestLeast(t *testing.T) {
	want := answer{
		api.World{Start: []int{0}, Next: [][]int{{1}, {1}}, Label: []uint64{2, silent}, Fair: [][]int{{0, 1}}},
		pairs([2]int{0, 0}, [2]int{-1, 1}),
	}
	tells(t, read(t, least), 1, 2, want)
	tells(t, read(t, least), 9, 200, want)
	// The bit is that of the node's number, wherever it stands.
	want.w.Label = []uint64{1, silent}
	tells(t, read(t, "end b\nstart a\nflow a b\n"), 1, 2, want)
}

// The markings: 0; 1 ahead of b; 2 ahead of c; 3 behind b; 4 is empty.
func TestLoop(t *testing.T) {
	want := answer{
		api.World{
			Start: []int{0, 1},
			Next:  [][]int{{2}, {3}, {4, 5}, {6}, {2}, {3}, {6}},
			Label: []uint64{2, 2, 4, 8, 2, 2, silent},
			Fair: [][]int{
				{0, 2, 3, 4, 5, 6}, {1, 2, 3, 4, 5, 6}, {0, 1, 2, 3, 4, 6}, {0, 1, 2, 3, 5, 6},
				{0, 1, 2, 3, 4, 5, 6}, {0, 1, 2, 3, 4, 5, 6},
			},
		},
		pairs([2]int{0, 0}, [2]int{1, 0}, [2]int{4, 1}, [2]int{5, 2}, [2]int{2, 3}, [2]int{3, 3}, [2]int{-1, 4}),
	}
	tells(t, read(t, loop), 1, 5, want)
	tells(t, read(t, loop), 9, 200, want)
}

// The markings: 0; 1 ahead of c and d; 2 is empty; 3 ahead of c alone.
func TestStop(t *testing.T) {
	tells(t, read(t, halt), 1, 4, answer{
		api.World{
			Start: []int{0},
			Next:  [][]int{{1, 2}, {3}, {4}, {3}, {3}},
			Label: []uint64{2, 4, 8, silent, 4},
			Fair:  [][]int{{0, 1, 2, 3, 4}, {0, 1, 3, 4}, {0, 2, 3, 4}},
		},
		pairs([2]int{0, 0}, [2]int{1, 1}, [2]int{2, 1}, [2]int{-1, 2}, [2]int{1, 3}),
	})
}

// Nothing ever ends here, so no state is silent. The markings: 0; 1 ahead of y and c; 2 y has gone round, c not yet; 3 ahead of y alone; 4 y has gone round, c is done.
func TestAside(t *testing.T) {
	tells(t, read(t, aside), 1, 5, answer{
		api.World{
			Start: []int{0},
			Next:  [][]int{{1, 2}, {3, 4}, {5}, {3, 4}, {6}, {6}, {6}},
			Label: []uint64{2, 4, 8, 4, 8, 4, 4},
			Fair:  [][]int{{0, 1, 2, 3, 4, 5, 6}, {0, 1, 3, 4, 5, 6}, {0, 1, 2, 3, 5, 6}, {0, 2, 4, 5, 6}},
		},
		pairs([2]int{0, 0}, [2]int{1, 1}, [2]int{3, 1}, [2]int{2, 2}, [2]int{3, 2}, [2]int{1, 3}, [2]int{2, 4}),
	})
}

// Where all stands still with tokens left there is a silent state, too; each such marking has its own.
func TestStuck(t *testing.T) {
	tells(t, read(t, stuck), 1, 5, answer{
		api.World{
			Start: []int{0, 1},
			Next:  [][]int{{2}, {3}, {4}, {5}, {4}, {5}},
			Label: []uint64{2, 2, 4, 8, silent, silent},
			Fair:  [][]int{{0, 2, 3, 4, 5}, {1, 2, 3, 4, 5}, {0, 1, 2, 3, 4, 5}, {0, 1, 2, 3, 4, 5}, {0, 1, 2, 3, 4, 5}, {0, 1, 2, 3, 4, 5}},
		},
		pairs([2]int{0, 0}, [2]int{1, 0}, [2]int{2, 1}, [2]int{3, 2}, [2]int{-1, 3}, [2]int{-1, 4}),
	})
}

// All stands still from the beginning on.
func TestStillAtOnce(t *testing.T) {
	tells(t, read(t, "start a\nand x\nend b\nflow a x\nflow x x\nflow x b\n"), 1, 1, answer{
		api.World{Start: []int{0}, Next: [][]int{{0}}, Label: []uint64{silent}, Fair: [][]int{{0}, {0}}},
		pairs([2]int{-1, 0}),
	})
}

// A step that leads to the marking at which it is done.
func TestRound(t *testing.T) {
	tells(t, read(t, "start a\ntask b\nflow b b\nflow a b\n"), 1, 2, answer{
		api.World{Start: []int{0}, Next: [][]int{{1}, {1}}, Label: []uint64{2, 2}, Fair: [][]int{{0, 1}, {0, 1}}},
		pairs([2]int{1, 0}, [2]int{0, 1}),
	})
}

// Steps of one node are states of their own, also where they lead to one marking, or from one on to the same one.
func TestLikeSteps(t *testing.T) {
	p := read(t, "start a\nxor x\nend c\nflow a x\nflow x x\nflow x c\n")
	// 0: x from a to itself; 1: x from a to c; 2: x from itself to itself; 3: x from itself to c; 4: c.
	tells(t, p, 1, 4, answer{
		api.World{
			Start: []int{0, 1},
			Next:  [][]int{{2, 3}, {4}, {2, 3}, {4}, {5}, {5}},
			Label: []uint64{2, 2, 2, 2, 4, silent},
			Fair:  [][]int{{0, 2, 3, 4, 5}, {1, 2, 3, 4, 5}, {0, 1, 2, 4, 5}, {0, 1, 3, 4, 5}, {0, 1, 2, 3, 4, 5}},
		},
		pairs([2]int{0, 0}, [2]int{1, 0}, [2]int{2, 1}, [2]int{3, 1}, [2]int{4, 2}, [2]int{-1, 3}),
	})
	// 0: x from a to 1; 1: x from a to 2; 2: c from 1; 3: c from 2.
	tells(t, read(t, "start a\nxor x\nend c\nflow a x\nflow x c\nflow x c\n"), 1, 4, answer{
		api.World{
			Start: []int{0, 1},
			Next:  [][]int{{2}, {3}, {4}, {4}, {4}},
			Label: []uint64{2, 2, 4, 4, silent},
			Fair:  [][]int{{0, 2, 3, 4}, {1, 2, 3, 4}, {0, 1, 2, 3, 4}, {0, 1, 2, 3, 4}},
		},
		pairs([2]int{0, 0}, [2]int{1, 0}, [2]int{2, 1}, [2]int{3, 2}, [2]int{-1, 3}),
	})
}

// The markings: 0; 1, 2 and 3 behind the steps of x; 4 behind y; 5 is empty.
func TestOr(t *testing.T) {
	tells(t, read(t, some), 1, 6, answer{
		api.World{
			Start: []int{0, 1, 2},
			Next:  [][]int{{3}, {4}, {5}, {6}, {6}, {6}, {7}, {7}},
			Label: []uint64{2, 2, 2, 4, 4, 4, 8, silent},
			Fair: [][]int{
				{0, 3, 4, 5, 6, 7}, {1, 3, 4, 5, 6, 7}, {2, 3, 4, 5, 6, 7}, {0, 1, 2, 3, 4, 5, 6, 7}, {0, 1, 2, 3, 4, 5, 6, 7},
			},
		},
		pairs([2]int{0, 0}, [2]int{1, 0}, [2]int{2, 0}, [2]int{3, 1}, [2]int{3, 2}, [2]int{3, 3}, [2]int{4, 4}, [2]int{-1, 5}),
	})
}

// A step that is never enabled has a fair set of all states; it is there, so that sets are numbered as steps are.
func TestNeverEnabled(t *testing.T) {
	// 0: j, which needs a token of its own; 1: x to j; 2: x to e; 3: e from x; 4: e from j.
	p := read(t, "start a\nand j\nxor x\nend e\nflow a x\nflow x j\nflow x e\nflow j j\nflow j e\n")
	tells(t, p, 1, 4, answer{
		api.World{
			Start: []int{0, 1},
			Next:  [][]int{{2}, {3}, {2}, {4}, {4}},
			Label: []uint64{4, 4, silent, 8, silent},
			Fair:  [][]int{{0, 1, 2, 3, 4}, {0, 2, 3, 4}, {1, 2, 3, 4}, {0, 1, 2, 3, 4}, {0, 1, 2, 3, 4}},
		},
		pairs([2]int{1, 0}, [2]int{2, 0}, [2]int{-1, 1}, [2]int{3, 2}, [2]int{-1, 3}),
	})
}

// The last of 20 nodes has bit 19.
func TestLastNode(t *testing.T) {
	text, flows := "start a\n", ""
	for i := 1; i < api.MaxNodes; i++ {
		text += []string{"task ", "end "}[i/(api.MaxNodes-1)] + string(rune('a'+i)) + "\n"
		flows += "flow " + string(rune('a'+i-1)) + " " + string(rune('a'+i)) + "\n"
	}
	a := answered(t, read(t, text+flows), 1, 200)
	for state := range 19 {
		if a.w.Label[state] != 2<<state || a.of[state] != (api.Edge{Step: state, To: state}) {
			t.Error(state, a.w.Label[state], a.of[state])
		}
	}
	if len(a.of) != 20 || a.w.Label[19] != silent || a.of[19] != (api.Edge{Step: -1, To: 19}) {
		t.Error(a)
	}
}

// wide is a process of four lanes that go round for ever beside each other, 3 markings in two of them and 4 in the others. Ahead of that one of m flows is chosen, and so many tasks are done.
// So there are 2m + tasks + 1 states ahead, and 4 * 144 where the lanes go round.
func wide(m, tasks int) string {
	nodes, flows, from := "start s\n", "", "s"
	for i := range tasks {
		name := "t" + string(rune('a'+i))
		nodes += "task " + name + "\n"
		flows += "flow " + from + " " + name + "\n"
		from = name
	}
	nodes += "xor q\ntask y\nand x\n"
	flows += "flow " + from + " q\n" + strings.Repeat("flow q y\n", m) + "flow y x\n"
	for lane, count := range []int{3, 3, 2, 2} {
		first, last := string(rune('a'+lane))+"a", ""
		for i := range count {
			name := string(rune('a'+lane)) + string(rune('a'+i))
			nodes += "task " + name + "\n"
			if last != "" {
				flows += "flow " + last + " " + name + "\n"
			}
			last = name
		}
		flows += "flow x " + first + "\nflow " + last + " " + first + "\n"
	}
	return nodes + flows
}

// 600 states are all right, one more is not.
func TestManyStates(t *testing.T) {
	for _, x := range []struct{ m, tasks int }{{11, 1}, {10, 3}} {
		p := read(t, wide(x.m, x.tasks))
		a := answered(t, p, 1, 200)
		if len(a.of) != 600 || len(a.w.Next) != 600 || len(a.w.Label) != 600 || world.Check(a.w) != api.OK {
			t.Error(x, len(a.of), len(a.w.Next), len(a.w.Label), world.Check(a.w))
		}
		refuses(t, read(t, wide(x.m, x.tasks+1)), 1, 200, api.ErrLarge)
	}
	if a := answered(t, read(t, wide(11, 0)), 1, 200); len(a.of) != 599 {
		t.Error(len(a.of))
	}
	refuses(t, read(t, wide(12, 0)), 1, 200, api.ErrLarge)
	refuses(t, read(t, wide(14, 0)), 1, 200, api.ErrLarge)
}

// Explore's errors are told ahead of ErrLarge.
func TestTooManyMarkings(t *testing.T) {
	p := read(t, wide(11, 2))
	s, e := space.Explore(p, 1, 200)
	if e != api.OK {
		t.Fatal(e)
	}
	refuses(t, p, 1, len(s.Marks), api.ErrLarge)
	refuses(t, p, 1, len(s.Marks)-1, api.ErrStates)
	refuses(t, p, 0, len(s.Marks), api.ErrArg)
	refuses(t, p, 1, 201, api.ErrArg)
	refuses(t, read(t, least), 1, 1, api.ErrStates)
	for tokens := 1; tokens <= api.MaxTokens; tokens++ {
		refuses(t, read(t, heap), tokens, 200, api.ErrTokens)
		refuses(t, read(t, heap), tokens, 2, api.ErrStates)
	}
}

// fan is a process in which one of 4 flows is chosen and behind it one of 10: 54 steps, and one more for each task ahead.
func fan(tasks int) string {
	nodes, flows, from := "start s\n", "", "s"
	for i := range tasks {
		name := "t" + string(rune('a'+i))
		nodes += "task " + name + "\n"
		flows += "flow " + from + " " + name + "\n"
		from = name
	}
	return nodes + "xor x\nxor y\nend z\n" + flows + "flow " + from + " x\n" + strings.Repeat("flow x y\n", 4) + strings.Repeat("flow y z\n", 10)
}

// There are as many fair sets as steps, up to 60.
func TestManySteps(t *testing.T) {
	for tasks := range 7 {
		p := read(t, fan(tasks))
		list, _ := steps.Of(p)
		a := answered(t, p, 1, 200)
		if len(a.w.Fair) != 54+tasks || len(list) != 54+tasks || world.Check(a.w) != api.OK {
			t.Error(tasks, len(a.w.Fair), len(list))
		}
	}
	refuses(t, read(t, fan(7)), 1, 200, api.ErrLarge)
	refuses(t, read(t, fan(7)), 0, 0, api.ErrLarge)
}

func TestWrongBounds(t *testing.T) {
	for _, bounds := range [][2]int{{0, 2}, {10, 2}, {-1, 2}, {math.MinInt, 2}, {math.MaxInt, 2}, {1, 0}, {1, 201}, {1, -1}, {1, math.MinInt}, {1, math.MaxInt}, {0, 0}, {10, 201}} {
		for _, text := range []string{least, heap, wide(14, 0)} {
			refuses(t, read(t, text), bounds[0], bounds[1], api.ErrArg)
		}
	}
}

func TestWrongProcess(t *testing.T) {
	long := read(t, least)
	long.Nodes[0].Name = strings.Repeat("a", api.MaxName+1)
	kind := read(t, least)
	kind.Nodes[1].Kind = 8
	twice := read(t, least)
	twice.Nodes[1].Name = "a"
	lost := read(t, loop)
	lost.Flows[1] = api.Flow{From: 2, To: 9}
	apart := read(t, least)
	apart.Nodes = append(apart.Nodes, api.Node{Name: "c", Kind: api.NTask})
	apart.Flows = append(apart.Flows, api.Flow{From: 2, To: 2})
	for want, list := range map[api.Errno][]api.Process{
		api.ErrArg:   {{}, long, kind, lost},
		api.ErrName:  {twice},
		api.ErrReach: {apart},
		api.ErrLarge: {{Nodes: make([]api.Node, api.MaxNodes+1)}, {Flows: make([]api.Flow, api.MaxFlows+1)}},
	} {
		for _, p := range list {
			for _, bounds := range [][2]int{{1, 1}, {9, 200}, {0, 200}, {9, 0}, {10, 201}} {
				refuses(t, p, bounds[0], bounds[1], want)
			}
		}
	}
}
