package sound

import (
	"math"
	"slices"
	"strings"
	"testing"

	"watchway/api"
	"watchway/game"
	"watchway/proc"
	"watchway/space"
)

// read is the process of a text.
func read(t *testing.T, s string) api.Process {
	t.Helper()
	p, at, e := proc.Parse(s)
	if e != api.OK {
		t.Fatalf("%q: %v at %d", s, e, at)
	}
	return p
}

// sameFinding tells whether two findings are the same.
func sameFinding(a, b api.Finding) bool {
	return slices.Equal(a.Dead, b.Dead) && a.Still == b.Still && a.Never == b.Never && slices.Equal(a.ToStill, b.ToStill) && slices.Equal(a.ToNever, b.ToNever)
}

// finds holds a finding against the one that should be answered.
func finds(t *testing.T, p api.Process, tokens, states int, want api.Finding) {
	t.Helper()
	if got, e := Look(p, tokens, states); e != api.OK || !sameFinding(got, want) {
		t.Error("up to", tokens, states, ":", got, e, "want", want)
	}
}

// refuses asks for an error, and nothing beside it.
func refuses(t *testing.T, p api.Process, tokens, states int, want api.Errno) {
	t.Helper()
	if got, e := Look(p, tokens, states); e != want || got.Dead != nil || got.ToStill != nil || got.ToNever != nil || got.Still != 0 || got.Never != 0 {
		t.Error("up to", tokens, states, ":", got, e, "want", want)
	}
}

// nothing is what is found in a sound process.
var nothing = api.Finding{Still: -1, Never: -1}

// Texts of processes; what their steps are stands beside them.
const (
	least = "start a\nend b\nflow a b\n" // 0: b
	// 0: x from 0 to b; 1: x from 0 to c; 2, 3: x from 2; 4: b; 5: c.
	loop = "start a\nxor x\ntask b\nend c\nflow a x\nflow x b\nflow b x\nflow x c\n"
	// 0: x; 1: b; 2: c; 3: y; 4: d.
	both = "start a\nand x\ntask b\ntask c\nand y\nend d\nflow a x\nflow x b\nflow x c\nflow b y\nflow c y\nflow y d\n"
	// 0: x; 1: c; 2: d.
	halt = "start a\nand x\nstop c\nend d\nflow a x\nflow x c\nflow x d\n"
	// 0: f to b; 1: f to c; 2: b; 3: c; 4: j; 5: e.
	stuck = "start a\nxor f\ntask b\ntask c\nand j\nend e\nflow a f\nflow f b\nflow f c\nflow b j\nflow c j\nflow j e\n"
	// m: 0: from a to f; 1: from a to j; 2: from f to f; 3: from f to j; 4: f; 5: j; 6: e.
	// Each way round by f leaves a token ahead of j.
	heap = "start a\nxor m\nand f\nand j\nend e\nflow a m\nflow m f\nflow f m\nflow f j\nflow m j\nflow j e\n"
	// 0: x; 1: b from 1; 2: b from 2; 3: c. Two tokens come to c.
	double = "start a\nand x\ntask b\nend c\nflow a x\nflow x b\nflow x b\nflow b c\n"
	// 0: x; 1: y; 2: c. Two tokens come to y, which needs a third one, and only gives that itself.
	hungry = "start a\nand x\nand y\nend c\nflow a x\nflow x y\nflow x y\nflow y y\nflow y c\n"
	// 0 to 2: x; 3: y; 4: d.
	some = "start a\nor x\nor y\nend d\nflow a x\nflow x y\nflow x y\nflow y d\n"
)

func TestSound(t *testing.T) {
	for _, text := range []string{least, loop, both, halt, double, some} {
		finds(t, read(t, text), 2, 200, nothing)
		finds(t, read(t, text), 9, 50, nothing)
	}
	finds(t, read(t, least), 1, 2, nothing)
	finds(t, read(t, both), 1, 7, nothing)
}

// The markings of stuck are numbered 0; 1 and 2 by f; 3 behind b, 4 behind c.
func TestStuck(t *testing.T) {
	finds(t, read(t, stuck), 1, 5, api.Finding{Dead: []int{4, 5}, Still: 3, ToStill: []int{0, 2}})
	finds(t, read(t, stuck), 9, 200, api.Finding{Dead: []int{4, 5}, Still: 3, ToStill: []int{0, 2}})
}

// All stands still from the beginning on: no step leads there.
func TestStillAtOnce(t *testing.T) {
	p := read(t, "start a\nand x\nend b\nflow a x\nflow x x\nflow x b\n")
	finds(t, p, 1, 1, api.Finding{Dead: []int{1, 2}})
}

// Where the start stands makes no difference: it is left out, though it has no step.
func TestStartIsNotDead(t *testing.T) {
	p := read(t, "and x\nend b\nstart a\nflow a x\nflow x x\nflow x b\n")
	finds(t, p, 1, 1, api.Finding{Dead: []int{0, 1}})
	finds(t, read(t, "end b\nstart a\nflow a b\n"), 1, 2, nothing)
}

// A node that is never done need not make anything stand still: the stop takes all away.
func TestDeadAlone(t *testing.T) {
	// 0: x; 1: c; 2: f to one side; 3: f to the other side.
	p := read(t, "start a\nand x\nstop c\nxor f\nand j\nend e\nflow a x\nflow x c\nflow x f\nflow f j\nflow f j\nflow j e\n")
	finds(t, p, 1, 5, api.Finding{Dead: []int{4, 5}, Still: -1, Never: -1})
}

// A node with several steps is not dead if one of them is done.
func TestOneStepDone(t *testing.T) {
	// 0: x from w; 1: x from y; 2: y, which is never done; 3: e; 4: z; 5: w.
	p := read(t, "start a\nxor x\nand y\nend e\nstop z\nand w\nflow a w\nflow w x\nflow w y\nflow w z\nflow y y\nflow y x\nflow x e\n")
	finds(t, p, 1, 20, api.Finding{Dead: []int{2}, Still: -1, Never: -1})
}

// Something can always be done, and yet nothing ends.
func TestNeverAlone(t *testing.T) {
	finds(t, read(t, "start a\ntask b\nflow a b\nflow b b\n"), 1, 2, api.Finding{Still: -1})
	// 0: x to e; 1: x to b; 2: b from x; 3: b from c; 4: c; 5: e. Behind 1 one only goes round.
	p := read(t, "start a\nxor x\ntask b\ntask c\nend e\nflow a x\nflow x e\nflow x b\nflow b c\nflow c b\n")
	finds(t, p, 1, 6, api.Finding{Still: -1, Never: 2, ToNever: []int{1}})
}

// Never may come ahead of Still, and a space may have both beside an end.
func TestNeverAheadOfStill(t *testing.T) {
	// x: 0: to e; 1: to r; 2: to f; 3: r from x; 4: r from r; 5: f to one side; 6: f to the other side; 7: j; 8, 9: e.
	p := read(t, "start a\nxor x\ntask r\nxor f\nand j\nend e\nflow a x\nflow x e\nflow x r\nflow x f\nflow r r\nflow f j\nflow f j\nflow j e\n")
	// Markings: 0; 1 to 3 by x; 4 is empty; 5 goes round at r; 6 and 7 stand still at j.
	finds(t, p, 1, 8, api.Finding{Dead: []int{4}, Still: 6, Never: 2, ToStill: []int{2, 5}, ToNever: []int{1}})
}

// A marking from which one may still end is neither, though one from which one can't is behind it.
func TestStillBesideAnEnd(t *testing.T) {
	// 0: x to b; 1: x to j; 2: b; 3: j; 4: e from b; 5: e from j.
	p := read(t, "start a\nxor x\ntask b\nand j\nend e\nflow a x\nflow x b\nflow x j\nflow b e\nflow j j\nflow j e\n")
	finds(t, p, 1, 20, api.Finding{Dead: []int{3}, Still: 2, Never: 2, ToStill: []int{1}, ToNever: []int{1}})
}

// More than one token is left, on more than one flow.
func TestTokensLeft(t *testing.T) {
	finds(t, read(t, hungry), 1, 2, api.Finding{Dead: []int{2, 3}, Still: 1, ToStill: []int{0}})
	// 0: x; 1, 2: b; 3: y; 4: e. Two tokens come to one flow into y.
	p := read(t, "start a\nand x\ntask b\nand y\nend e\nflow a x\nflow x b\nflow x b\nflow b y\nflow y y\nflow y e\n")
	finds(t, p, 2, 20, api.Finding{Dead: []int{3, 4}, Still: 4, ToStill: []int{0, 1, 2}})
}

// Several shortest ways lead to where all stands still: the one by the least markings is told.
func TestLeastOfShortest(t *testing.T) {
	for _, order := range [][2]string{{"b", "c"}, {"c", "b"}} {
		// 0: x; 1: b; 2: c. Which flow out of x stands first makes no difference, which step is first does.
		p := read(t, "start a\nand x\ntask b\ntask c\nand y\nend d\nflow a x\nflow x "+order[0]+"\nflow x "+order[1]+"\nflow b y\nflow c y\nflow y y\nflow y d\n")
		finds(t, p, 1, 20, api.Finding{Dead: []int{4, 5}, Still: 4, ToStill: []int{0, 1, 2}})
	}
	// A longer way leads there by lesser steps: x to b, b to w; x to w is the shorter one.
	// 0: x to b; 1: x to w; 2: b; 3: w from b; 4: w from x; 5: y.
	p := read(t, "start a\nxor x\ntask b\ntask w\nand y\nend d\nflow a x\nflow x b\nflow b w\nflow x w\nflow w y\nflow y y\nflow y d\n")
	finds(t, p, 1, 20, api.Finding{Dead: []int{4, 5}, Still: 4, ToStill: []int{1, 4}})
}

// An or that waits for ever makes all stand still.
func TestOrWaits(t *testing.T) {
	// 0: x; 1: y; 2: z. Each of two ors waits for the other one.
	p := read(t, "start a\nand x\nor y\nor z\nend d\nend e\nflow a x\nflow x y\nflow x z\nflow y z\nflow z y\nflow y d\nflow z e\n")
	got, e := Look(p, 9, 200)
	if e != api.OK || got.Still != 1 || !slices.Equal(got.ToStill, []int{0}) || got.Never != 0 || len(got.ToNever) != 0 || !slices.Equal(got.Dead, []int{2, 3, 4, 5}) {
		t.Error(got, e)
	}
}

// An error of Explore is told, and nothing beside it.
func TestTooMany(t *testing.T) {
	refuses(t, read(t, least), 1, 1, api.ErrStates)
	refuses(t, read(t, stuck), 1, 4, api.ErrStates)
	refuses(t, read(t, double), 1, 200, api.ErrTokens)
	for tokens := 1; tokens <= api.MaxTokens; tokens++ {
		refuses(t, read(t, heap), tokens, 200, api.ErrTokens)
		refuses(t, read(t, heap), tokens, 2, api.ErrStates)
	}
}

func TestWrongBounds(t *testing.T) {
	for _, bounds := range [][2]int{{0, 2}, {10, 2}, {-1, 2}, {math.MinInt, 2}, {math.MaxInt, 2}, {1, 0}, {1, 201}, {1, -1}, {1, math.MinInt}, {1, math.MaxInt}, {0, 0}, {10, 201}} {
		refuses(t, read(t, least), bounds[0], bounds[1], api.ErrArg)
		refuses(t, read(t, heap), bounds[0], bounds[1], api.ErrArg)
	}
}

func TestWrongProcess(t *testing.T) {
	long := read(t, least)
	long.Nodes[0].Name = strings.Repeat("a", api.MaxName+1)
	twice := read(t, least)
	twice.Nodes[1].Name = "a"
	lost := read(t, loop)
	lost.Flows[1] = api.Flow{From: 2, To: 9}
	apart := read(t, least)
	apart.Nodes = append(apart.Nodes, api.Node{Name: "c", Kind: api.NTask})
	apart.Flows = append(apart.Flows, api.Flow{From: 2, To: 2})
	many := "start a\nxor x\nxor y\nxor z\nend b\nflow a x\nflow z b\n" + strings.Repeat("flow x y\n", 8) + strings.Repeat("flow y z\n", 8)
	for want, list := range map[api.Errno][]api.Process{
		api.ErrArg:   {{}, long, lost},
		api.ErrName:  {twice},
		api.ErrReach: {apart},
		api.ErrLarge: {read(t, many), {Nodes: make([]api.Node, api.MaxNodes+1)}},
	} {
		for _, p := range list {
			for _, bounds := range [][2]int{{1, 1}, {9, 200}, {0, 200}, {9, 0}} {
				refuses(t, p, bounds[0], bounds[1], want)
			}
		}
	}
}

// plays asks that the steps can be played, to the marking of that number.
func plays(t *testing.T, p api.Process, s api.Space, list []int, mark int) {
	t.Helper()
	marks, fired, e := game.Play(p, list)
	if e != api.OK || fired != len(list) || !slices.Equal(marks[fired], s.Marks[mark]) {
		t.Error(p, ":", list, "is played to", marks, e, "want", s.Marks[mark])
	}
}

// The steps that are told can be played; at Still nothing is enabled.
func TestStepsArePlayed(t *testing.T) {
	for _, text := range []string{stuck, hungry} {
		p := read(t, text)
		s, _ := space.Explore(p, 2, 50)
		f, e := Look(p, 2, 50)
		if e != api.OK || f.Still < 0 || f.Never < 0 {
			t.Fatal(f, e)
		}
		plays(t, p, s, f.ToStill, f.Still)
		plays(t, p, s, f.ToNever, f.Never)
		if may, e := game.Enabled(p, s.Marks[f.Still]); e != api.OK || len(may) != 0 {
			t.Error(text, may, e)
		}
	}
}
