package board

import (
	"slices"
	"testing"

	"watchway/api"
	"watchway/proc"
)

// The rules of a board are tried at length in package game, which answers by it.

// Steps: 0: x gives to b; 1: x gives to c; 2: b; 3: c.
const parting = "start a\nxor x\ntask b\nend c\nflow a x\nflow x b\nflow x c\nflow b c\n"

// laid is the board of a text, and its process.
func laid(t *testing.T, text string) (Board, api.Process) {
	t.Helper()
	p, at, e := proc.Parse(text)
	if e != api.OK {
		t.Fatalf("%q: %v at %d", text, e, at)
	}
	b, e := Lay(p)
	if e != api.OK {
		t.Fatalf("%q: %v", text, e)
	}
	return b, p
}

func TestBoard(t *testing.T) {
	b, _ := laid(t, parting)
	mark := b.Begin()
	if !slices.Equal(mark, []int{1, 0, 0, 0}) {
		t.Error(mark)
	}
	if can, e := b.Enabled(mark); e != api.OK || !slices.Equal(can, []int{0, 1}) {
		t.Error(can, e)
	}
	if after, e := b.Fire(mark, 1); e != api.OK || !slices.Equal(after, []int{0, 0, 1, 0}) {
		t.Error(after, e)
	}
	if after, e := b.Fire(mark, 2); e != api.ErrNone || after != nil {
		t.Error(after, e)
	}
	if !slices.Equal(mark, []int{1, 0, 0, 0}) {
		t.Error("changed:", mark)
	}
}

func TestWrong(t *testing.T) {
	if b, e := Lay(api.Process{}); e == api.OK || len(b.Begin()) != 0 {
		t.Error(b, e)
	}
	b, _ := laid(t, parting)
	for _, mark := range [][]int{nil, {1, 0, 0}, {1, 0, 0, 0, 0}, {1, 0, 0, -1}, {10, 0, 0, 0}} {
		if can, e := b.Enabled(mark); e != api.ErrArg || can != nil {
			t.Error(mark, can, e)
		}
		if after, e := b.Fire(mark, 0); e != api.ErrArg || after != nil {
			t.Error(mark, after, e)
		}
	}
	for _, step := range []int{-1, 5} {
		if after, e := b.Fire(b.Begin(), step); e != api.ErrArg || after != nil {
			t.Error(step, after, e)
		}
	}
}

// A board stands by itself: what becomes of the process is nothing to it, nor what becomes of what it answered.
func TestStandsAlone(t *testing.T) {
	b, p := laid(t, parting)
	for i := range p.Nodes {
		p.Nodes[i] = api.Node{Kind: api.NStop}
	}
	for i := range p.Flows {
		p.Flows[i] = api.Flow{From: 3, To: 3}
	}
	for range 2 {
		mark := b.Begin()
		can, _ := b.Enabled(mark)
		after, _ := b.Fire(mark, 0)
		if !slices.Equal(mark, []int{1, 0, 0, 0}) || !slices.Equal(can, []int{0, 1}) || !slices.Equal(after, []int{0, 1, 0, 0}) {
			t.Error(mark, can, after)
		}
		mark[0], can[0], after[0] = -7, -7, -7
	}
}
