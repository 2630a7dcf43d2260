package proc

import (
	"slices"
	"strings"
	"testing"

	"watchway/api"
)

// allKinds is a process that has each kind of node, and its text.
const allKinds = "start a\nxor b\nand c\nor d\ntask e\nstop f\nend g\n" +
	"flow a b\nflow b c\nflow b g\nflow c d\nflow c b\nflow d e\nflow d e\nflow e f\nflow d d\n"

func allKindsProcess() api.Process {
	return api.Process{
		Nodes: []api.Node{node(api.NStart, "a"), node(api.NXor, "b"), node(api.NAnd, "c"), node(api.NOr, "d"),
			node(api.NTask, "e"), node(api.NStop, "f"), node(api.NEnd, "g")},
		Flows: []api.Flow{flow(0, 1), flow(1, 2), flow(1, 6), flow(2, 3), flow(2, 1), flow(3, 4), flow(3, 4), flow(4, 5), flow(3, 3)},
	}
}

// equal tells whether two processes have the same nodes and flows.
func equal(a, b api.Process) bool {
	return slices.Equal(a.Nodes, b.Nodes) && slices.Equal(a.Flows, b.Flows)
}

// isZero tells whether a process is the zero value.
func isZero(p api.Process) bool { return p.Nodes == nil && p.Flows == nil }

func TestPrint(t *testing.T) {
	if s, e := Print(allKindsProcess()); e != api.OK || s != allKinds {
		t.Errorf("%q %v", s, e)
	}
	if s, e := Print(line(0)); e != api.OK || s != "start aa\nend ab\nflow aa ab\n" {
		t.Errorf("%q %v", s, e)
	}
}

func TestPrintChecks(t *testing.T) {
	lost := line(0)
	lost.Nodes = append(lost.Nodes, node(api.NXor, "x"))
	lost.Flows = append(lost.Flows, flow(2, 2))
	for want, p := range map[api.Errno]api.Process{
		api.ErrArg:   named("A"),
		api.ErrLarge: line(api.MaxNodes),
		api.ErrName:  named(nameOf(0)),
		api.ErrReach: lost,
	} {
		if s, e := Print(p); e != want || s != "" {
			t.Errorf("%q %v, want %v", s, e, want)
		}
	}
}

func TestParse(t *testing.T) {
	if p, at, e := Parse(allKinds); e != api.OK || at != 0 || !equal(p, allKindsProcess()) {
		t.Error(p, at, e)
	}
	if p, at, e := Parse("start a\nend b\nflow a b\n"); e != api.OK || at != 0 ||
		!equal(p, api.Process{Nodes: []api.Node{node(1, "a"), node(2, "b")}, Flows: []api.Flow{flow(0, 1)}}) {
		t.Error(p, at, e)
	}
}

// Words of lines are no names that are kept back.
func TestParseWordsAsNames(t *testing.T) {
	const s = "task flow\nstart start\nend end\nor or\nflow start flow\nflow flow or\nflow or end\n"
	p, at, e := Parse(s)
	if e != api.OK || at != 0 {
		t.Fatal(at, e)
	}
	if u, e := Print(p); e != api.OK || u != s {
		t.Errorf("%q %v", u, e)
	}
}

// wrongText is a text with what is to be told of it.
type wrongText struct {
	s    string
	at   int
	want api.Errno
}

func askWrong(t *testing.T, texts []wrongText) {
	t.Helper()
	for _, c := range texts {
		if p, at, e := Parse(c.s); e != c.want || at != c.at || !isZero(p) {
			t.Errorf("%.60q: %v at %d, %v; want %v at %d", c.s, e, at, p, c.want, c.at)
		}
	}
}

func TestParseSyntax(t *testing.T) {
	lines := []string{"", " ", "start", "start ", " start a", "start  a", "start a ", "start\ta", "Start a", "starta", "start a b",
		"start A", "start a1", "start abcdefghi", "start true", "task false", "task silent", "start a\r", "a start", "start a\x00",
		"begin a", "node a", "a", "xor", "flow", "flow a", "flow ", "flow  ", "flow a ", "flow  a", "flow a  b", "flow a b ", " flow a b",
		"flow a b c", "Flow a b", "flow a B", "flow A b", "flow true b", "flow b false", "flow b silent", "flow abcdefghi b", "flow b abcdefghi",
		"task a b", " a b", "# a", "flow a\tb", "\xff a"}
	for _, l := range lines {
		askWrong(t, []wrongText{
			{l + "\n", 1, api.ErrSyntax},
			{"start a\nend b\n" + l + "\nflow a b\n", 3, api.ErrSyntax},
			{"start a\nend b\nflow a b\n" + l + "\n", 4, api.ErrSyntax},
		})
	}
}

func TestParseLinesWithoutTheirEnd(t *testing.T) {
	askWrong(t, []wrongText{
		{"start a", 1, api.ErrSyntax},
		{"x", 1, api.ErrSyntax},
		{"start a\nend b", 2, api.ErrSyntax},
		{"start a\nend b\nflow a b", 3, api.ErrSyntax},
		{"start a\nend b\nflow a b\nf", 4, api.ErrSyntax},
		{"start a\nend b\nflow a b\n ", 4, api.ErrSyntax},
		{"start a\r\nend b\r\nflow a b\r\n", 1, api.ErrSyntax},
	})
}

func TestParseNodeBehindFlow(t *testing.T) {
	askWrong(t, []wrongText{
		{"start a\nend b\nflow a b\ntask c\n", 4, api.ErrSyntax},
		{"start a\nflow a b\nend b\n", 3, api.ErrSyntax},
		{"flow a b\nstart a\nend b\n", 2, api.ErrSyntax},
	})
}

func TestParseFirstWrongLine(t *testing.T) {
	askWrong(t, []wrongText{
		{"start a\nend b\nnone\nflow a b\ntask c\n", 3, api.ErrSyntax},
		{"\n\n\n", 1, api.ErrSyntax},
		{"start a\n\nend b", 2, api.ErrSyntax},
	})
}

// Names are looked at when all lines have been read.
func TestParseNames(t *testing.T) {
	askWrong(t, []wrongText{
		{"start a\nend b\nflow a c\n", 3, api.ErrName},
		{"start a\nend b\nflow c b\n", 3, api.ErrName},
		{"start a\nend b\nflow c d\n", 3, api.ErrName},
		{"start a\nend b\nflow a b\nflow a c\nflow c a\n", 4, api.ErrName},
		{"flow a b\n", 1, api.ErrName},
		{"flow a b\nflow a b\n", 1, api.ErrName},
		{"start a\nend b\nflow a c\nflow\n", 4, api.ErrSyntax},
		{"start a\nend b\nflow a c\nend c\n", 4, api.ErrSyntax},
		{"start a\nend b\nflow a c\nflow a b", 4, api.ErrSyntax},
		{"start abcdefgh\nend abcdefgi\nflow abcdefg abcdefgi\n", 3, api.ErrName},
	})
}

// manyNodes is the text of so many tasks.
func manyNodes(count int) string {
	var s strings.Builder
	for i := range count {
		s.WriteString("task " + nameOf(i) + "\n")
	}
	return s.String()
}

// Check's errors are told of the text as a whole, behind all others.
func TestParseChecks(t *testing.T) {
	askWrong(t, []wrongText{
		{"", 0, api.ErrArg},
		{"start a\nend b\n", 0, api.ErrArg},
		{"task a\nflow a a\n", 0, api.ErrArg},
		{"start a\nend a\nflow a a\n", 0, api.ErrName},
		{"start a\nend b\nend a\nflow a b\nflow a c\n", 5, api.ErrName},
		{"start a\nend b\ntask c\nflow a b\nflow c c\n", 0, api.ErrReach},
		{manyNodes(api.MaxNodes + 1), 0, api.ErrLarge},
		{manyNodes(api.MaxNodes+1) + "flow aa aa\nflow aa b\n", api.MaxNodes + 3, api.ErrName},
		{manyNodes(api.MaxNodes+1) + "flow aa\n", api.MaxNodes + 2, api.ErrSyntax},
		{"task a\n" + strings.Repeat("flow a a\n", api.MaxFlows+1), 0, api.ErrLarge},
		{"task a\n" + strings.Repeat("flow a a\n", api.MaxFlows), 0, api.ErrArg},
	})
}

func TestParseLarge(t *testing.T) {
	askWrong(t, []wrongText{
		{strings.Repeat("x", api.MaxText), 1, api.ErrSyntax},
		{strings.Repeat("x", api.MaxText+1), 0, api.ErrLarge},
		{strings.Repeat("\n", api.MaxText+1), 0, api.ErrLarge},
		{strings.Repeat(" ", api.MaxText), 1, api.ErrSyntax},
		{"start a\n" + strings.Repeat("x", api.MaxText-9) + "\n", 2, api.ErrSyntax},
		{"start a\n" + strings.Repeat("x", api.MaxText-8) + "\n", 0, api.ErrLarge},
	})
	long := "task a\n" + strings.Repeat("flow a a\n", api.MaxText/9-2)
	askWrong(t, []wrongText{{long + "flow b a\n", strings.Count(long, "\n") + 1, api.ErrName}})
}

// The greatest process has a text, which is read.
func TestParseGreatest(t *testing.T) {
	p := line(api.MaxNodes - 2)
	for i := range p.Nodes {
		p.Nodes[i].Name = "abcdef" + nameOf(i)
	}
	p.Nodes[1].Kind = api.NAnd
	for len(p.Flows) < api.MaxFlows {
		p.Flows = append(p.Flows, flow(1, 1))
	}
	s, e := Print(p)
	if e != api.OK {
		t.Fatal(e)
	}
	if q, at, e := Parse(s); e != api.OK || at != 0 || !equal(p, q) {
		t.Error(q, at, e)
	}
}

// A text that is read is just the one that is printed: each change of a byte is another process, or none.
func TestParseNothingElse(t *testing.T) {
	try := func(s string) {
		p, _, e := Parse(s)
		if e != api.OK {
			if !isZero(p) {
				t.Errorf("%q: %v beside %v", s, p, e)
			}
			return
		}
		if u, e := Print(p); e != api.OK || u != s {
			t.Errorf("%q is read as %q %v", s, u, e)
		}
	}
	for i := range len(allKinds) + 1 {
		try(allKinds[:i])
		for b := range 256 {
			try(allKinds[:i] + string([]byte{byte(b)}) + allKinds[i:])
			if i < len(allKinds) {
				try(allKinds[:i] + string([]byte{byte(b)}) + allKinds[i+1:])
			}
		}
		if i < len(allKinds) {
			try(allKinds[:i] + allKinds[i+1:])
		}
	}
}
