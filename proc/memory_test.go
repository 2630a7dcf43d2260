package proc

import (
	"slices"
	"strings"
	"testing"
	"unsafe"

	"watchway/api"
)

// mark is what stands in the room behind lists; no answer has it.
const mark = -77

// roomy is allKindsProcess, with marked room behind its lists.
func roomy() api.Process {
	p := allKindsProcess()
	nodes := append(p.Nodes, node(mark, "mark"), node(mark, "mark"))
	flows := append(p.Flows, flow(mark, mark), flow(mark, mark))
	return api.Process{Nodes: nodes[:len(p.Nodes)], Flows: flows[:len(p.Flows)]}
}

// whole is a process with the room behind its lists made a part of them.
func whole(p api.Process) api.Process {
	return api.Process{Nodes: p.Nodes[:cap(p.Nodes)], Flows: p.Flows[:cap(p.Flows)]}
}

// fill overwrites a list and its spare room.
func fill[T any](list []T, with T) {
	list = list[:cap(list)]
	for i := range list {
		list[i] = with
	}
}

// spoil overwrites a process, room included.
func spoil(p api.Process) {
	fill(p.Nodes, node(mark, "spoilt"))
	fill(p.Flows, flow(mark, mark))
}

// answers are those of all calls to one process.
type answers struct {
	text      string
	ins, outs [][]int
}

func ask(t *testing.T, p api.Process) answers {
	t.Helper()
	var a answers
	s, e := Print(p)
	if check := Check(p); e != api.OK || check != api.OK {
		t.Fatal(e, check)
	}
	a.text = s
	for n := range p.Nodes {
		ins, e := Ins(p, n)
		outs, e2 := Outs(p, n)
		if e != api.OK || e2 != api.OK {
			t.Fatal(e, e2)
		}
		a.ins, a.outs = append(a.ins, ins), append(a.outs, outs)
	}
	return a
}

func (a answers) same(b answers) bool {
	return a.text == b.text && slices.EqualFunc(a.ins, b.ins, slices.Equal) && slices.EqualFunc(a.outs, b.outs, slices.Equal)
}

func TestHandedInStays(t *testing.T) {
	p := roomy()
	ask(t, p)
	wrong := roomy()
	wrong.Nodes[2].Name = wrong.Nodes[1].Name
	Check(wrong)
	Print(wrong)
	Ins(wrong, 0)
	Outs(wrong, 0)
	wrong.Nodes[2].Name = "c"
	if !equal(whole(p), whole(roomy())) || !equal(whole(wrong), whole(roomy())) {
		t.Error(whole(p), whole(wrong))
	}
}

func TestAnswersStayWhenTheHandedInIsSpoilt(t *testing.T) {
	p := roomy()
	first := ask(t, p)
	spoil(p)
	if again := ask(t, roomy()); !first.same(again) {
		t.Error(first, again)
	}
}

func TestSpoiltAnswersAreNotKept(t *testing.T) {
	p := roomy()
	first := ask(t, p)
	for i := range first.ins {
		fill(first.ins[i], mark)
		fill(first.outs[i], mark)
	}
	read, _, _ := Parse(allKinds)
	spoil(read)
	if !equal(whole(p), whole(roomy())) {
		t.Error("an answer shares memory with what was handed in")
	}
	again := ask(t, p)
	if again.text != allKinds || !slices.Equal(again.ins[3], []int{3, 8}) || !slices.Equal(again.outs[1], []int{1, 2}) {
		t.Error(again)
	}
	if q, at, e := Parse(allKinds); e != api.OK || at != 0 || !equal(q, allKindsProcess()) {
		t.Error(q, at, e)
	}
}

// The text is laid in bytes here, so that it can be spoilt behind Parse's back.
func TestNamesAreNoPiecesOfTheText(t *testing.T) {
	bytes := []byte(allKinds)
	p, _, e := Parse(unsafe.String(&bytes[0], len(bytes)))
	if e != api.OK {
		t.Fatal(e)
	}
	fill(bytes, '!')
	if !equal(p, allKindsProcess()) {
		t.Error(p)
	}
}

func TestTextIsNoPieceOfNames(t *testing.T) {
	bytes := []byte("abcdefgh")
	p := line(0)
	p.Nodes[1].Name = unsafe.String(&bytes[0], len(bytes))
	s, e := Print(p)
	fill(bytes, '!')
	if e != api.OK || s != "start aa\nend abcdefgh\nflow aa abcdefgh\n" {
		t.Error(s, e)
	}
}

// An error at one call leaves nothing for the next one.
func TestNothingIsKept(t *testing.T) {
	for _, s := range []string{"", "flow a b\n", allKinds + "x", strings.Repeat("x", api.MaxText+1), "start z\nend z\nflow z z\n"} {
		Parse(s)
		if q, at, e := Parse(allKinds); e != api.OK || at != 0 || !equal(q, allKindsProcess()) {
			t.Error(q, at, e)
		}
	}
}
