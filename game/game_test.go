package game

import (
	"math"
	"slices"
	"strings"
	"testing"

	"watchway/api"
	"watchway/proc"
	"watchway/steps"
)

// read is the process of a text.
func read(t *testing.T, s string) api.Process {
	t.Helper()
	p, at, e := proc.Parse(s)
	if e != api.OK {
		t.Fatalf("%q: %v at %d", s, e, at)
	}
	return p
}

// enabled holds the steps that are enabled against those that should be.
func enabled(t *testing.T, p api.Process, mark []int, want ...int) {
	t.Helper()
	if got, e := Enabled(p, mark); e != api.OK || !slices.Equal(got, want) {
		t.Error("at", mark, "enabled", got, e, "want", want)
	}
}

// fires holds the marking behind a step against the one that should be there.
func fires(t *testing.T, p api.Process, mark []int, step int, want ...int) {
	t.Helper()
	if got, e := Fire(p, mark, step); e != api.OK || !slices.Equal(got, want) {
		t.Error("at", mark, "step", step, "leads to", got, e, "want", want)
	}
}

// refuses asks Fire for an error, and no marking beside it.
func refuses(t *testing.T, p api.Process, mark []int, step int, want api.Errno) {
	t.Helper()
	if got, e := Fire(p, mark, step); e != want || got != nil {
		t.Error("at", mark, "step", step, "leads to", got, e, "want", want)
	}
}

// plays holds what Play answers against what it should.
func plays(t *testing.T, p api.Process, l []int, want api.Errno, marks ...[]int) {
	t.Helper()
	got, fired, e := Play(p, l)
	if e != want || fired != len(marks)-1 || !slices.EqualFunc(got, marks, slices.Equal) {
		t.Error(l, "is played as", got, fired, e, "want", marks, len(marks)-1, want)
	}
}

// stepsOf is the numbers of a node's steps.
func stepsOf(t *testing.T, p api.Process, node int) []int {
	t.Helper()
	list, e := steps.Of(p)
	if e != api.OK {
		t.Fatal(e)
	}
	var numbers []int
	for number, s := range list {
		if s.Node == node {
			numbers = append(numbers, number)
		}
	}
	return numbers
}

// Texts of processes; what their steps are stands beside them.
const (
	least = "start a\nend b\nflow a b\n" // 0: b
	// 0: x from 0 to b; 1: x from 0 to c; 2, 3: x from 2; 4: b; 5: c.
	loop = "start a\nxor x\ntask b\nend c\nflow a x\nflow x b\nflow b x\nflow x c\n"
	// 0: x; 1: y; 2: c.
	joined = "start a\nand x\nand y\nend c\nflow a x\nflow x y\nflow x y\nflow y c\n"
	// 0 to 2: x; 3: b; 4: c; 5: y; 6: d.
	some = "start a\nor x\ntask b\ntask c\nor y\nend d\nflow a x\nflow x b\nflow x c\nflow b y\nflow c y\nflow y d\n"
	// 0: x; 1: c from 1; 2: c from 2; 3: d.
	halt = "start a\nand x\nstop c\nend d\nflow a x\nflow x c\nflow x c\nflow x d\n"
)

func TestBegin(t *testing.T) {
	for text, want := range map[string][]int{
		least: {1},
		loop:  {1, 0, 0, 0},
		"end b\ntask c\nstart a\nflow c b\nflow a c\n":             {0, 1},
		"task c\nstart a\nflow c c\nflow a c\n":                    {0, 1},
		"and x\nend b\nstart a\nflow x b\nflow a x\nflow x b\n":    {0, 1, 0},
		"xor x\nend b\nstart a\nflow x b\nflow x x\nflow a x\n":    {0, 0, 1},
		"start a\nor x\nstop b\nflow a x\nflow x b\nflow x b\n":    {1, 0, 0},
		"start a\nand x\nflow x x\nflow a x\nflow x x\nflow x x\n": {0, 1, 0, 0},
	} {
		if got, e := Begin(read(t, text)); e != api.OK || !slices.Equal(got, want) {
			t.Errorf("%q: %v %v want %v", text, got, e, want)
		}
	}
}

func TestLeast(t *testing.T) {
	p := read(t, least)
	enabled(t, p, []int{1}, 0)
	enabled(t, p, []int{0})
	fires(t, p, []int{1}, 0, 0)
	fires(t, p, []int{9}, 0, 8)
	refuses(t, p, []int{0}, 0, api.ErrNone)
	plays(t, p, []int{0}, api.OK, []int{1}, []int{0})
}

func TestTask(t *testing.T) {
	p := read(t, "start a\nand x\ntask b\nend c\nflow a x\nflow x b\nflow x b\nflow b c\n")
	// Steps: 0: x; 1: b from 1; 2: b from 2; 3: c.
	enabled(t, p, []int{0, 1, 0, 0}, 1)
	enabled(t, p, []int{0, 0, 1, 0}, 2)
	enabled(t, p, []int{0, 2, 1, 1}, 1, 2, 3)
	fires(t, p, []int{0, 2, 1, 0}, 1, 0, 1, 1, 1)
	fires(t, p, []int{0, 2, 1, 3}, 2, 0, 2, 0, 4)
	fires(t, p, []int{0, 2, 1, 3}, 3, 0, 2, 1, 2)
	refuses(t, p, []int{0, 0, 1, 0}, 1, api.ErrNone)
	refuses(t, p, []int{0, 1, 0, 0}, 2, api.ErrNone)
}

func TestXor(t *testing.T) {
	p := read(t, loop)
	enabled(t, p, []int{1, 0, 0, 0}, 0, 1)
	enabled(t, p, []int{0, 0, 1, 0}, 2, 3)
	enabled(t, p, []int{0, 1, 0, 0}, 4)
	enabled(t, p, []int{0, 0, 0, 1}, 5)
	enabled(t, p, []int{1, 9, 3, 2}, 0, 1, 2, 3, 4, 5)
	enabled(t, p, []int{0, 0, 0, 0})
	fires(t, p, []int{1, 0, 0, 0}, 0, 0, 1, 0, 0)
	fires(t, p, []int{1, 0, 0, 0}, 1, 0, 0, 0, 1)
	// Just one of the flows in gives, even if both have a token.
	fires(t, p, []int{1, 0, 2, 0}, 0, 0, 1, 2, 0)
	fires(t, p, []int{1, 0, 2, 0}, 3, 1, 0, 1, 1)
	refuses(t, p, []int{1, 0, 0, 0}, 2, api.ErrNone)
	refuses(t, p, []int{0, 0, 1, 0}, 0, api.ErrNone)
}

func TestAnd(t *testing.T) {
	p := read(t, joined)
	enabled(t, p, []int{1, 0, 0, 0}, 0)
	enabled(t, p, []int{0, 1, 0, 0})
	enabled(t, p, []int{0, 0, 9, 0})
	enabled(t, p, []int{1, 1, 1, 1}, 0, 1, 2)
	fires(t, p, []int{1, 0, 0, 0}, 0, 0, 1, 1, 0)
	fires(t, p, []int{0, 2, 5, 0}, 1, 0, 1, 4, 1)
	refuses(t, p, []int{0, 1, 0, 0}, 1, api.ErrNone)
	refuses(t, p, []int{0, 0, 1, 0}, 1, api.ErrNone)
	// An NAnd that waits for itself never goes on.
	waits := read(t, "start a\nand x\nflow a x\nflow x x\n")
	enabled(t, waits, []int{1, 0})
	enabled(t, waits, []int{1, 1}, 0)
	fires(t, waits, []int{2, 1}, 0, 1, 1)
}

// An NAnd gives to each of its flows, wherever they stand, as many as there may be.
func TestAndWidest(t *testing.T) {
	text := "start a\nand x\nend b\nflow a x\n" + strings.Repeat("flow x b\n", api.MaxFlows-1)
	want := slices.Repeat([]int{1}, api.MaxFlows)
	want[0] = 0
	mark := make([]int, api.MaxFlows)
	mark[0] = 1
	fires(t, read(t, text), mark, 0, want...)
}

func TestOr(t *testing.T) {
	p := read(t, some)
	enabled(t, p, []int{1, 0, 0, 0, 0, 0}, 0, 1, 2)
	fires(t, p, []int{1, 0, 0, 0, 0, 0}, 0, 0, 1, 0, 0, 0, 0)
	fires(t, p, []int{1, 0, 0, 0, 0, 0}, 1, 0, 0, 1, 0, 0, 0)
	fires(t, p, []int{2, 0, 0, 0, 0, 0}, 2, 1, 1, 1, 0, 0, 0)
	// What stands ahead of b may come to flow 3, so y waits; if flow 3 has a token already it doesn't.
	enabled(t, p, []int{0, 1, 0, 0, 1, 0}, 3)
	enabled(t, p, []int{0, 1, 0, 1, 0, 0}, 3, 5)
	enabled(t, p, []int{0, 1, 0, 1, 1, 0}, 3, 5)
	// A token far away may come, too; one that has gone by can't.
	enabled(t, p, []int{1, 0, 0, 1, 0, 0}, 0, 1, 2)
	enabled(t, p, []int{0, 0, 0, 1, 0, 1}, 5, 6)
	enabled(t, p, []int{0, 0, 0, 0, 0, 1}, 6)
	// A token is taken from each flow in that has one.
	fires(t, p, []int{0, 0, 0, 2, 0, 0}, 5, 0, 0, 0, 1, 0, 1)
	fires(t, p, []int{0, 0, 0, 2, 1, 0}, 5, 0, 0, 0, 1, 0, 1)
	refuses(t, p, []int{0, 0, 1, 1, 0, 0}, 5, api.ErrNone)
	refuses(t, p, []int{1, 0, 0, 1, 0, 0}, 5, api.ErrNone)
	refuses(t, p, []int{0, 0, 0, 0, 0, 0}, 5, api.ErrNone)
}

// Which flows out get a token goes by their places, not by their numbers.
func TestOrOuts(t *testing.T) {
	p := read(t, "start a\nor x\nend b\nflow x b\nflow a x\nflow x b\nflow x b\n")
	for number := 1; number <= 7; number++ {
		fires(t, p, []int{0, 1, 0, 0}, number-1, number&1, 0, number>>1&1, number>>2&1)
	}
}

// No token comes through the NOr itself: not by a flow from it to itself, not by a way round.
func TestOrRound(t *testing.T) {
	own := read(t, "start a\nor x\nend b\nflow a x\nflow x x\nflow x b\n")
	// Steps: 0 to 2: x; 3: b.
	enabled(t, own, []int{1, 0, 0}, 0, 1, 2)
	enabled(t, own, []int{0, 1, 0}, 0, 1, 2)
	enabled(t, own, []int{0, 0, 1}, 3)
	fires(t, own, []int{1, 1, 0}, 2, 0, 1, 1)
	fires(t, own, []int{1, 0, 0}, 0, 0, 1, 0)

	round := read(t, "start a\nor x\ntask b\nend c\nflow a x\nflow x b\nflow b x\nflow x c\n")
	// Steps: 0 to 2: x; 3: b; 4: c.
	enabled(t, round, []int{1, 0, 0, 0}, 0, 1, 2)
	enabled(t, round, []int{0, 0, 1, 0}, 0, 1, 2)
	// A token that is on its way round, behind the NOr, may come.
	enabled(t, round, []int{1, 1, 0, 0}, 3)
	enabled(t, round, []int{1, 1, 1, 0}, 0, 1, 2, 3)
	enabled(t, round, []int{1, 0, 0, 4}, 0, 1, 2, 4)
}

// Of two NOr that wait for each other's tokens neither goes on.
func TestOrsWaitForEachOther(t *testing.T) {
	p := read(t, "start a\nand s\nor x\nor y\nend e\n"+
		"flow a s\nflow s x\nflow s y\nflow x y\nflow y x\nflow x e\nflow y e\n")
	// Flow 1 and 4 go to x, 2 and 3 to y. Steps: 0: s; 1 to 3: x; 4 to 6: y; 7, 8: e.
	enabled(t, p, []int{0, 1, 1, 0, 0, 0, 0})
	enabled(t, p, []int{0, 1, 0, 0, 0, 0, 0}, 1, 2, 3)
	enabled(t, p, []int{0, 1, 1, 1, 0, 0, 0}, 4, 5, 6)
	enabled(t, p, []int{0, 0, 0, 1, 0, 0, 0}, 4, 5, 6)
	// To flows 1 and 2 a token comes from s alone.
	enabled(t, p, []int{0, 0, 0, 1, 1, 0, 0}, 1, 2, 3, 4, 5, 6)
	enabled(t, p, []int{1, 0, 0, 1, 1, 0, 0}, 0)
}

// A way is one along flows, whatever the nodes on it ask for: an NAnd that will never be done is a way, too.
func TestOrWaysThroughAllKinds(t *testing.T) {
	for _, kind := range []string{"task", "xor", "and", "or"} {
		p := read(t, "start a\nand s\n"+kind+" k\nor y\nend e\n"+
			"flow a s\nflow s k\nflow s k\nflow s y\nflow k y\nflow y e\n")
		y := stepsOf(t, p, 3)[0]
		refuses(t, p, []int{0, 1, 0, 1, 0, 0}, y, api.ErrNone)
		refuses(t, p, []int{0, 1, 1, 1, 0, 0}, y, api.ErrNone)
		enabled(t, p, []int{0, 0, 0, 1, 0, 0}, y)
	}
}

// Of several flows in a token may come to some of those that have none alone.
func TestOrOneOfSeveral(t *testing.T) {
	p := read(t, "start a\nand s\ntask b\ntask c\nor y\nstop e\n"+
		"flow a s\nflow s b\nflow s c\nflow s y\nflow b y\nflow c y\nflow y e\n")
	y := stepsOf(t, p, 4)[0]
	for bits := range 1 << 5 {
		mark := []int{0, bits & 1, bits >> 1 & 1, bits >> 2 & 1, bits >> 3 & 1, bits >> 4 & 1, 0}
		has := mark[3]+mark[4]+mark[5] > 0
		comes := mark[1] == 1 && mark[4] == 0 || mark[2] == 1 && mark[5] == 0
		got, e := Enabled(p, mark)
		if e != api.OK || slices.Contains(got, y) != (has && !comes) {
			t.Error(mark, got, e)
		}
	}
}

func TestStop(t *testing.T) {
	p := read(t, halt)
	enabled(t, p, []int{0, 1, 1, 1}, 1, 2, 3)
	fires(t, p, []int{3, 1, 1, 9}, 1, 0, 0, 0, 0)
	fires(t, p, []int{3, 9, 1, 9}, 2, 0, 0, 0, 0)
	// An end takes its own token alone.
	fires(t, p, []int{3, 1, 1, 9}, 3, 3, 1, 1, 8)
	refuses(t, p, []int{1, 0, 1, 1}, 1, api.ErrNone)
}

func TestTokens(t *testing.T) {
	p := read(t, loop)
	fires(t, p, []int{9, 8, 9, 9}, 0, 8, 9, 9, 9)
	refuses(t, p, []int{9, 9, 0, 0}, 0, api.ErrTokens)
	refuses(t, p, []int{1, 0, 0, 9}, 1, api.ErrTokens)
	fires(t, p, []int{1, 0, 0, 9}, 0, 0, 1, 0, 9)
	fires(t, p, []int{9, 9, 9, 9}, 5, 9, 9, 9, 8)
	refuses(t, read(t, joined), []int{1, 9, 0, 0}, 0, api.ErrTokens)
	refuses(t, read(t, joined), []int{1, 0, 9, 0}, 0, api.ErrTokens)
	refuses(t, read(t, some), []int{1, 9, 0, 0, 0, 0}, 2, api.ErrTokens)
	fires(t, read(t, some), []int{1, 9, 0, 0, 0, 0}, 1, 0, 9, 1, 0, 0, 0)
	// A flow that gives a token ahead of getting one has never more than 9.
	fires(t, read(t, "start a\ntask b\nflow a b\nflow b b\n"), []int{0, 9}, 1, 0, 9)
	refuses(t, read(t, "start a\ntask b\nflow a b\nflow b b\n"), []int{1, 9}, 0, api.ErrTokens)
	fires(t, read(t, "start a\nand x\nflow a x\nflow x x\n"), []int{9, 9}, 0, 8, 9)
	fires(t, read(t, "start a\nor x\nflow a x\nflow x x\n"), []int{0, 9}, 0, 0, 9)
	fires(t, read(t, "start a\nxor x\nflow a x\nflow x x\n"), []int{0, 9}, 1, 0, 9)
}

func TestNoMarking(t *testing.T) {
	p := read(t, loop)
	wrong := [][]int{nil, {}, {1}, {1, 0, 0}, {1, 0, 0, 0, 0}, make([]int, 1000),
		{10, 0, 0, 0}, {1, 0, 0, 10}, {-1, 0, 0, 0}, {1, 0, 0, -1}, {1, math.MaxInt, 0, 0}, {1, 0, math.MinInt, 0}}
	for _, mark := range wrong {
		if got, e := Enabled(p, mark); e != api.ErrArg || got != nil {
			t.Error(mark, got, e)
		}
		for _, step := range []int{-1, 0, 5, 6} {
			refuses(t, p, mark, step, api.ErrArg)
		}
	}
	enabled(t, p, []int{9, 0, 0, 0}, 0, 1)
	enabled(t, p, []int{0, 0, 0, 9}, 5)
}

func TestNoStep(t *testing.T) {
	p := read(t, loop)
	for _, step := range []int{math.MinInt, -2, -1, 6, 7, 60, math.MaxInt} {
		refuses(t, p, []int{1, 1, 1, 1}, step, api.ErrArg)
		refuses(t, p, []int{0, 0, 0, 0}, step, api.ErrArg)
		refuses(t, p, []int{9, 9, 9, 9}, step, api.ErrArg)
		plays(t, p, []int{step}, api.ErrArg, []int{1, 0, 0, 0})
	}
}

// A step that isn't enabled is refused for that, even if a flow is full.
func TestNoneAheadOfTokens(t *testing.T) {
	refuses(t, read(t, loop), []int{0, 9, 9, 9}, 0, api.ErrNone)
	refuses(t, read(t, joined), []int{0, 0, 9, 9}, 1, api.ErrNone)
	refuses(t, read(t, some), []int{0, 1, 0, 0, 9, 9}, 5, api.ErrNone)
}

func TestPlay(t *testing.T) {
	p := read(t, loop)
	begin := []int{1, 0, 0, 0}
	plays(t, p, nil, api.OK, begin)
	plays(t, p, []int{}, api.OK, begin)
	plays(t, p, []int{0, 4, 3, 5}, api.OK, begin, []int{0, 1, 0, 0}, []int{0, 0, 1, 0}, []int{0, 0, 0, 1}, []int{0, 0, 0, 0})
	// Nothing is fired behind the first error, though it could be.
	plays(t, p, []int{4, 0}, api.ErrNone, begin)
	plays(t, p, []int{0, 0, 4}, api.ErrNone, begin, []int{0, 1, 0, 0})
	plays(t, p, []int{0, 6, 4}, api.ErrArg, begin, []int{0, 1, 0, 0})
	plays(t, p, []int{1, 5, 5, -1}, api.ErrNone, begin, []int{0, 0, 0, 1}, []int{0, 0, 0, 0})
	plays(t, p, []int{0, -1, 0}, api.ErrArg, begin, []int{0, 1, 0, 0})
}

// An NAnd that gives to itself by way of an NXor fills the flow to the end.
func TestPlayTokens(t *testing.T) {
	p := read(t, "start a\nxor x\nand y\nend b\nflow a x\nflow x y\nflow y x\nflow y b\n")
	// Steps: 0: x from 0; 1: x from 2; 2: y; 3: b.
	l := []int{0, 2}
	marks := [][]int{{1, 0, 0, 0}, {0, 1, 0, 0}, {0, 0, 1, 1}}
	for tokens := 1; tokens < api.MaxTokens; tokens++ {
		l = append(l, 1, 2)
		marks = append(marks, []int{0, 1, 0, tokens}, []int{0, 0, 1, tokens + 1})
	}
	plays(t, p, l, api.OK, marks...)
	l = append(l, 1, 2, 3)
	marks = append(marks, []int{0, 1, 0, api.MaxTokens})
	plays(t, p, l, api.ErrTokens, marks...)
}

func TestPlayLarge(t *testing.T) {
	p := read(t, "start a\ntask b\nflow a b\nflow b b\n")
	l := make([]int, api.MaxPlay)
	marks := [][]int{{1, 0}}
	for i := range l {
		l[i] = min(i, 1)
		marks = append(marks, []int{0, 1})
	}
	plays(t, p, l, api.OK, marks...)
	for _, more := range []int{1, 0, -1, 100} {
		if got, fired, e := Play(p, append(l, more)); got != nil || fired != 0 || e != api.ErrLarge {
			t.Error(more, got, fired, e)
		}
	}
	// Too many are refused ahead of what the first of them would be refused for.
	if got, fired, e := Play(p, slices.Repeat([]int{-1}, api.MaxPlay+1)); got != nil || fired != 0 || e != api.ErrLarge {
		t.Error(got, fired, e)
	}
}

// What steps.Of tells comes ahead of all else.
func TestNoProcess(t *testing.T) {
	text := "start a\nxor x\nend b\nflow a x\nflow x b\n"
	named, lost, filled := read(t, text), read(t, text), read(t, text)
	named.Nodes[2].Name = "x"
	lost.Nodes = append(lost.Nodes, api.Node{Name: "t", Kind: api.NTask})
	lost.Flows = append(lost.Flows, api.Flow{From: 3, To: 3})
	for range 8 {
		filled.Flows = append(filled.Flows, api.Flow{From: 1, To: 1})
	}
	wide := api.Process{Nodes: filled.Nodes, Flows: make([]api.Flow, api.MaxFlows+1)}
	for _, c := range []struct {
		p    api.Process
		want api.Errno
	}{{api.Process{}, api.ErrArg}, {named, api.ErrName}, {lost, api.ErrReach}, {filled, api.ErrLarge}, {wide, api.ErrLarge}} {
		if got, e := Begin(c.p); e != c.want || got != nil {
			t.Error("begin", got, e, "want", c.want)
		}
		for _, mark := range [][]int{nil, {-1}, make([]int, len(c.p.Flows))} {
			if got, e := Enabled(c.p, mark); e != c.want || got != nil {
				t.Error("enabled", got, e, "want", c.want)
			}
			refuses(t, c.p, mark, 0, c.want)
			refuses(t, c.p, mark, -1, c.want)
		}
		for _, l := range [][]int{nil, {0}, {-1}, make([]int, api.MaxPlay+1)} {
			if got, fired, e := Play(c.p, l); e != c.want || got != nil || fired != 0 {
				t.Error("play", got, fired, e, "want", c.want)
			}
		}
	}
}
