package proc

import (
	"strings"

	"watchway/api"
	"watchway/naming"
)

// flowWord begins the line of a flow.
const flowWord = "flow"

// kindWords are the words that begin the lines of nodes, by their kinds.
var kindWords = [...]string{
	api.NStart: "start",
	api.NEnd:   "end",
	api.NStop:  "stop",
	api.NTask:  "task",
	api.NXor:   "xor",
	api.NAnd:   "and",
	api.NOr:    "or",
}

// Print answers the text of a process.
func Print(p api.Process) (string, api.Errno) {
	if e := Check(p); e != api.OK {
		return "", e
	}
	var text strings.Builder
	for _, n := range p.Nodes {
		writeLine(&text, kindWords[n.Kind], n.Name)
	}
	for _, f := range p.Flows {
		writeLine(&text, flowWord, p.Nodes[f.From].Name, p.Nodes[f.To].Name)
	}
	return text.String(), api.OK
}

func writeLine(text *strings.Builder, words ...string) {
	for i, word := range words {
		if i > 0 {
			text.WriteByte(' ')
		}
		text.WriteString(word)
	}
	text.WriteByte('\n')
}

// Parse answers the process of a text, or an error and the line at which it is (0: of the text as a whole).
func Parse(s string) (api.Process, int, api.Errno) {
	if len(s) > api.MaxText {
		return api.Process{}, 0, api.ErrLarge
	}
	var d draft
	if line := d.read(s); line != 0 {
		return api.Process{}, line, api.ErrSyntax
	}
	flows, line := d.join()
	if line != 0 {
		return api.Process{}, line, api.ErrName
	}
	p := api.Process{Nodes: d.nodes, Flows: flows}
	if e := Check(p); e != api.OK {
		return api.Process{}, 0, e
	}
	return p, 0, api.OK
}

// draft is what the lines of a text say, while it isn't known yet which nodes its flows mean.
type draft struct {
	nodes []api.Node
	flows []namedFlow
}

// namedFlow is a flow whose ends are names.
type namedFlow struct{ from, to string }

// read takes in all lines, and answers the number of the first one that can't be read, or 0.
func (d *draft) read(s string) int {
	for line := 1; s != ""; line++ {
		text, behind, whole := strings.Cut(s, "\n")
		if !whole || !d.readLine(text) {
			return line
		}
		s = behind
	}
	return 0
}

// readLine takes in one line, which is here without its byte 10.
func (d *draft) readLine(text string) bool {
	words := strings.Split(text, " ")
	switch len(words) {
	case 2:
		return len(d.flows) == 0 && d.readNode(words[0], words[1])
	case 3:
		return words[0] == flowWord && d.readFlow(words[1], words[2])
	}
	return false
}

func (d *draft) readNode(word, name string) bool {
	kind := kindOf(word)
	if !isKind(kind) || !naming.IsName(name) {
		return false
	}
	// A piece of the text would keep the text: the name is a copy.
	d.nodes = append(d.nodes, api.Node{Name: strings.Clone(name), Kind: kind})
	return true
}

func (d *draft) readFlow(from, to string) bool {
	if !naming.IsName(from) || !naming.IsName(to) {
		return false
	}
	d.flows = append(d.flows, namedFlow{from, to})
	return true
}

// kindOf answers the kind that a word stands for, or 0.
func kindOf(word string) int {
	for kind := api.NStart; kind <= api.NOr; kind++ {
		if kindWords[kind] == word {
			return kind
		}
	}
	return 0
}

// join finds the nodes that the flows mean; if there are none such, it answers the number of the first line with such a flow, else 0.
func (d *draft) join() ([]api.Flow, int) {
	var flows []api.Flow
	for number, f := range d.flows {
		from, to := find(d.nodes, f.from), find(d.nodes, f.to)
		if from == none || to == none {
			// All lines of nodes stand ahead of those of flows.
			return nil, len(d.nodes) + number + 1
		}
		flows = append(flows, api.Flow{From: from, To: to})
	}
	return flows, 0
}
