package space

import (
	"math"
	"slices"
	"strings"
	"testing"

	"watchway/api"
	"watchway/game"
	"watchway/proc"
)

// read is the process of a text.
func read(t *testing.T, s string) api.Process {
	t.Helper()
	p, at, e := proc.Parse(s)
	if e != api.OK {
		t.Fatalf("%q: %v at %d", s, e, at)
	}
	return p
}

// sameSpace tells whether two spaces are the same.
func sameSpace(a, b api.Space) bool {
	return slices.EqualFunc(a.Marks, b.Marks, slices.Equal) && slices.EqualFunc(a.Next, b.Next, slices.Equal)
}

// explores holds a space against the one that should be answered, and no route beside it.
func explores(t *testing.T, p api.Process, tokens, states int, want api.Space) {
	t.Helper()
	if got, e := Explore(p, tokens, states); e != api.OK || !sameSpace(got, want) {
		t.Error("up to", tokens, states, ":", got, e, "want", want)
	}
	if l, e := Route(p, tokens, states); e != api.OK || len(l) != 0 {
		t.Error("up to", tokens, states, ": route", l, e)
	}
}

// refuses asks for an error, no space beside it, and that route.
func refuses(t *testing.T, p api.Process, tokens, states int, want api.Errno, route ...int) {
	t.Helper()
	if got, e := Explore(p, tokens, states); e != want || got.Marks != nil || got.Next != nil {
		t.Error("up to", tokens, states, ":", got, e, "want", want)
	}
	if l, e := Route(p, tokens, states); e != want || !slices.Equal(l, route) {
		t.Error("up to", tokens, states, ": route", l, e, "want", route, want)
	}
}

// edges is the edges of each marking, as pairs of a step and the marking to which it leads.
func edges(pairs [][][2]int) [][]api.Edge {
	next := make([][]api.Edge, len(pairs))
	for at, row := range pairs {
		for _, pair := range row {
			next[at] = append(next[at], api.Edge{Step: pair[0], To: pair[1]})
		}
	}
	return next
}

// Texts of processes; what their steps are stands beside them.
const (
	least = "start a\nend b\nflow a b\n" // 0: b
	// 0: x from 0 to b; 1: x from 0 to c; 2, 3: x from 2; 4: b; 5: c.
	loop = "start a\nxor x\ntask b\nend c\nflow a x\nflow x b\nflow b x\nflow x c\n"
	// 0: x; 1: b; 2: c; 3: y; 4: d.
	both = "start a\nand x\ntask b\ntask c\nand y\nend d\nflow a x\nflow x b\nflow x c\nflow b y\nflow c y\nflow y d\n"
	// 0: x; 1: c from 1; 2: d from 2.
	halt = "start a\nand x\nstop c\nend d\nflow a x\nflow x c\nflow x d\n"
	// m: 0: from a to f; 1: from a to j; 2: from f to f; 3: from f to j; 4: f; 5: j; 6: e.
	// Each way round by f leaves a token ahead of j.
	heap = "start a\nxor m\nand f\nand j\nend e\nflow a m\nflow m f\nflow f m\nflow f j\nflow m j\nflow j e\n"
	// 0: x; 1: b from 1; 2: b from 2; 3: c. Two tokens come to c.
	double = "start a\nand x\ntask b\nend c\nflow a x\nflow x b\nflow x b\nflow b c\n"
)

func TestLeast(t *testing.T) {
	p := read(t, least)
	want := api.Space{Marks: [][]int{{1}, {0}}, Next: edges([][][2]int{{{0, 1}}, {}})}
	explores(t, p, 1, 2, want)
	explores(t, p, 1, 200, want)
	explores(t, p, 9, 2, want)
	explores(t, p, 9, 200, want)
	refuses(t, p, 1, 1, api.ErrStates, 0)
	refuses(t, p, 9, 1, api.ErrStates, 0)
}

func TestLoop(t *testing.T) {
	p := read(t, loop)
	want := api.Space{
		Marks: [][]int{{1, 0, 0, 0}, {0, 1, 0, 0}, {0, 0, 0, 1}, {0, 0, 1, 0}, {0, 0, 0, 0}},
		Next:  edges([][][2]int{{{0, 1}, {1, 2}}, {{4, 3}}, {{5, 4}}, {{2, 1}, {3, 2}}, {}}),
	}
	explores(t, p, 1, 5, want)
	explores(t, p, 9, 200, want)
	refuses(t, p, 1, 4, api.ErrStates, 1, 5)
	refuses(t, p, 1, 3, api.ErrStates, 0, 4)
	refuses(t, p, 1, 2, api.ErrStates, 1)
	refuses(t, p, 1, 1, api.ErrStates, 0)
}

// A marking to which several steps lead has one number, and each step its edge.
func TestBoth(t *testing.T) {
	explores(t, read(t, both), 1, 7, api.Space{
		Marks: [][]int{{1, 0, 0, 0, 0, 0}, {0, 1, 1, 0, 0, 0}, {0, 0, 1, 1, 0, 0}, {0, 1, 0, 0, 1, 0}, {0, 0, 0, 1, 1, 0}, {0, 0, 0, 0, 0, 1}, {0, 0, 0, 0, 0, 0}},
		Next:  edges([][][2]int{{{0, 1}}, {{1, 2}, {2, 3}}, {{2, 4}}, {{1, 4}}, {{3, 5}}, {{4, 6}}, {}}),
	})
	refuses(t, read(t, both), 1, 6, api.ErrStates, 0, 1, 2, 3, 4)
	p := read(t, "start a\nxor x\nend b\nflow a x\nflow x b\nflow x b\n")
	explores(t, p, 1, 4, api.Space{
		Marks: [][]int{{1, 0, 0}, {0, 1, 0}, {0, 0, 1}, {0, 0, 0}},
		Next:  edges([][][2]int{{{0, 1}, {1, 2}}, {{2, 3}}, {{3, 3}}, {}}),
	})
}

func TestStop(t *testing.T) {
	explores(t, read(t, halt), 1, 4, api.Space{
		Marks: [][]int{{1, 0, 0}, {0, 1, 1}, {0, 0, 0}, {0, 1, 0}},
		Next:  edges([][][2]int{{{0, 1}}, {{1, 2}, {2, 3}}, {}, {{1, 2}}}),
	})
}

// A step may lead to the marking at which it is, or back to the first one.
func TestRound(t *testing.T) {
	explores(t, read(t, "start a\ntask b\nflow b b\nflow a b\n"), 1, 2, api.Space{
		Marks: [][]int{{0, 1}, {1, 0}},
		Next:  edges([][][2]int{{{1, 1}}, {{0, 1}}}),
	})
	refuses(t, read(t, "start a\ntask b\nflow b b\nflow a b\n"), 1, 1, api.ErrStates, 1)
}

func TestOr(t *testing.T) {
	// 0 to 2: x; 3: y; 4: d.
	p := read(t, "start a\nor x\nor y\nend d\nflow a x\nflow x y\nflow x y\nflow y d\n")
	explores(t, p, 1, 6, api.Space{
		Marks: [][]int{{1, 0, 0, 0}, {0, 1, 0, 0}, {0, 0, 1, 0}, {0, 1, 1, 0}, {0, 0, 0, 1}, {0, 0, 0, 0}},
		Next:  edges([][][2]int{{{0, 1}, {1, 2}, {2, 3}}, {{3, 4}}, {{3, 4}}, {{3, 4}}, {{4, 5}}, {}}),
	})
}

// All stands still with tokens left, which is no error here.
func TestStandsStill(t *testing.T) {
	p := read(t, "start a\nxor x\nand y\nend d\nflow a x\nflow x y\nflow x y\nflow y d\n")
	explores(t, p, 1, 3, api.Space{
		Marks: [][]int{{1, 0, 0, 0}, {0, 1, 0, 0}, {0, 0, 1, 0}},
		Next:  edges([][][2]int{{{0, 1}, {1, 2}}, {}, {}}),
	})
}

func TestTokens(t *testing.T) {
	p := read(t, double)
	// The second token comes to c by the other step of b.
	refuses(t, p, 1, 200, api.ErrTokens, 0, 1, 2)
	s, e := Explore(p, 2, 200)
	if e != api.OK || !slices.ContainsFunc(s.Marks, func(mark []int) bool { return mark[3] == 2 }) {
		t.Error(s, e)
	}
	explores(t, p, 9, 200, s)
	explores(t, p, 2, len(s.Marks), s)
	refuses(t, p, 2, 1, api.ErrStates, 0)
}

// Of one marking that is too full and too many ErrTokens is told; else what comes first.
func TestTokensFirst(t *testing.T) {
	p := read(t, double)
	// Markings: Begin's; two tokens ahead of b; one of them at c, for each; at 0, 1, 2 comes the full one, ahead of what is behind step 3.
	refuses(t, p, 1, 4, api.ErrTokens, 0, 1, 2)
	refuses(t, p, 1, 3, api.ErrStates, 0, 2)
	refuses(t, p, 2, 4, api.ErrStates, 0, 1, 2)
	refuses(t, p, 1, 2, api.ErrStates, 0, 1)
}

// With 9 tokens it is Fire that refuses: the steps can be played but for the last one.
func TestFireRefuses(t *testing.T) {
	p := read(t, heap)
	for tokens := 1; tokens <= api.MaxTokens; tokens++ {
		want := []int{0, 4}
		for range tokens {
			want = append(want, 2, 4)
		}
		refuses(t, p, tokens, 200, api.ErrTokens, want...)
		marks, fired, e := game.Play(p, want)
		if tokens < api.MaxTokens && (e != api.OK || slices.Max(marks[fired]) != tokens+1) {
			t.Error(tokens, marks, fired, e)
		}
		if tokens == api.MaxTokens && (e != api.ErrTokens || fired != len(want)-1) {
			t.Error(tokens, marks, fired, e)
		}
	}
}

// A flow that both gives and gets a token in one step has no more behind it.
func TestFullFlowStays(t *testing.T) {
	// 0: x, which keeps its own flow; it needs a token there first, so it never can.
	explores(t, read(t, "start a\nand x\nend b\nflow a x\nflow x x\nflow x b\n"), 1, 1, api.Space{
		Marks: [][]int{{1, 0, 0}},
		Next:  edges([][][2]int{{}}),
	})
	// 0: x from 0 to itself; 1: x from 0 to b; 2, 3: x from 1; 4: b.
	explores(t, read(t, "start a\nxor x\nend b\nflow a x\nflow x x\nflow x b\n"), 1, 4, api.Space{
		Marks: [][]int{{1, 0, 0}, {0, 1, 0}, {0, 0, 1}, {0, 0, 0}},
		Next:  edges([][][2]int{{{0, 1}, {1, 2}}, {{2, 1}, {3, 2}}, {{4, 3}}, {}}),
	})
}

// lanes is a process with so many tasks one behind the other in each of some lanes, all of them begun at once and then joined.
func lanes(tasks ...int) string {
	nodes, flows := "start s\nand x\n", "flow s x\n"
	for lane, count := range tasks {
		from := "x"
		for i := range count {
			name := string(rune('a'+lane)) + string(rune('a'+i))
			nodes += "task " + name + "\n"
			flows += "flow " + from + " " + name + "\n"
			from = name
		}
		flows += "flow " + from + " y\n"
	}
	return nodes + "and y\nend z\n" + flows + "flow y z\n"
}

// behindTask is lanes with one more task, ahead of all.
func behindTask(text string) string {
	return strings.NewReplacer("and x\n", "task q\nand x\n", "flow s x\n", "flow s q\nflow q x\n").Replace(text)
}

// The markings of lanes are as many as there are places, one in each lane, beside the first one and the last two.
func TestManyMarkings(t *testing.T) {
	for text, count := range map[string]int{
		lanes(0, 0):                 4,
		lanes(3):                    7,
		lanes(13, 1):                31,
		lanes(7, 7):                 67,
		lanes(4, 4, 4):              128,
		lanes(6, 6, 2):              150,
		lanes(4, 4, 2, 1):           153,
		lanes(6, 6, 3):              199,
		behindTask(lanes(6, 6, 3)):  200,
		behindTask(lanes(13, 1)):    32,
		behindTask(lanes(2, 2, 10)): 103,
	} {
		p := read(t, text)
		s, e := Explore(p, 1, count)
		if e != api.OK || len(s.Marks) != count || len(s.Next) != count {
			t.Fatalf("%q: %d %d %v want %d", text, len(s.Marks), len(s.Next), e, count)
		}
		explores(t, p, 9, 200, s)
		refuses(t, p, 1, count-1, api.ErrStates, routeTo(t, p, count-1, s.Marks[count-1])...)
	}
}

// 200 markings are all right, as seen above; one more is not.
func TestTooManyMarkings(t *testing.T) {
	// 201 markings; the one that comes last is empty.
	p := read(t, lanes(1, 2, 2, 10))
	refuses(t, p, 1, 200, api.ErrStates, routeTo(t, p, 200, make([]int, len(p.Flows)))...)
	p = read(t, lanes(5, 5, 5))
	if l, e := Route(p, 9, 200); e != api.ErrStates || len(l) == 0 {
		t.Error(l, e)
	}
}

// routeTo is a route, seen to lead to that marking.
func routeTo(t *testing.T, p api.Process, states int, want []int) []int {
	t.Helper()
	l, _ := Route(p, 1, states)
	marks, fired, e := game.Play(p, l)
	if e != api.OK || fired != len(l) || !slices.Equal(marks[fired], want) {
		t.Error("up to", states, ": route", l, "is played to", marks[fired], e, "want", want)
	}
	return l
}

func TestWrongBounds(t *testing.T) {
	p := read(t, least)
	for _, bounds := range [][2]int{{0, 2}, {10, 2}, {-1, 2}, {math.MinInt, 2}, {math.MaxInt, 2}, {1, 0}, {1, 201}, {1, -1}, {1, math.MinInt}, {1, math.MaxInt}, {0, 0}, {10, 201}, {256 + 1, 2}, {1, 1 << 32}} {
		refuses(t, p, bounds[0], bounds[1], api.ErrArg)
		// A process that would have too many tokens, or markings.
		refuses(t, read(t, heap), bounds[0], bounds[1], api.ErrArg)
	}
}

// The error of steps.Of comes ahead of ErrArg.
func TestWrongProcess(t *testing.T) {
	long := read(t, least)
	long.Nodes[0].Name = strings.Repeat("a", api.MaxName+1)
	kind := read(t, least)
	kind.Nodes[1].Kind = 8
	lost := read(t, loop)
	lost.Flows[1] = api.Flow{From: 2, To: 9}
	many := "start a\nxor x\nxor y\nxor z\nend b\nflow a x\nflow z b\n" + strings.Repeat("flow x y\n", 8) + strings.Repeat("flow y z\n", 8)
	for _, p := range []api.Process{{}, long, kind, lost, read(t, many)} {
		_, want := game.Begin(p)
		if want == api.OK {
			t.Fatal(p)
		}
		for _, bounds := range [][2]int{{1, 1}, {9, 200}, {0, 200}, {9, 0}, {10, 201}} {
			refuses(t, p, bounds[0], bounds[1], want)
		}
	}
}
