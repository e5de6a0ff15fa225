package bpmn_test

import (
	"slices"
	"strings"
	"testing"

	"conductor/api"
	"conductor/bpmn"
	"conductor/fault"
)

// kindNames are how the tests name the kinds, by their numbers.
var kindNames = []string{"start", "end", "stop", "throw", "task", "script", "xor", "and", "or", "any", "sub", "timer", "message", "signal", "send", "ontimer", "onmessage", "onsignal", "onerror"}

// kinds are all of them.
func kinds() []int {
	var l []int
	for kind := range kindNames {
		l = append(l, kind)
	}
	return l
}

// holds are the letters of what each kind has: x a Text that is an expression, n one that is a name, e one that may be empty, too; k a Key, t a To, b an At and Stops.
var holds = []string{"", "", "", "n", "", "xt", "", "", "", "", "", "x", "nk", "n", "n", "xb", "nkb", "nb", "eb"}

func holdsAny(kind int, letters string) bool {
	return kind >= 0 && kind < len(holds) && strings.ContainsAny(holds[kind], letters)
}

func isOneOf(kind int, names ...string) bool {
	return kind >= 0 && kind < len(kindNames) && slices.Contains(names, kindNames[kind])
}

// made gives a node with what its kind must have.
func made(kind int, name string) api.Node {
	n := api.Node{Kind: kind, Name: name, Up: -1, At: -1}
	if holdsAny(kind, "x") {
		n.Text = "n + 1"
	}
	if holdsAny(kind, "n") {
		n.Text = "m"
	}
	if holdsAny(kind, "k") {
		n.Key = `"k"`
	}
	if holdsAny(kind, "t") {
		n.To = "n"
	}
	n.Stops = kind == api.NkOnError
	return n
}

// drawn gives a process p of nodes and flows. A node is told as kind:name, with the name of its subprocess and a stroke ahead, if it lies in one, with @ and the name of another one behind, if it stands there, and with ! at the end, if it stops that. Of flows see flowOf.
func drawn(nodes, flows string) api.Def {
	d := api.Def{Name: "p"}
	for _, text := range strings.Fields(nodes) {
		up, rest, is := strings.Cut(text, "/")
		if !is {
			up, rest = "", text
		}
		rest, stops := strings.CutSuffix(rest, "!")
		rest, at, _ := strings.Cut(rest, "@")
		kind, name, _ := strings.Cut(rest, ":")
		n := made(slices.Index(kindNames, kind), name)
		n.Up, n.At = numberOf(d, up), numberOf(d, at)
		n.Stops = n.Stops || stops
		d.Nodes = append(d.Nodes, n)
	}
	for _, text := range strings.Fields(flows) {
		d.Flows = append(d.Flows, flowOf(d, text))
	}
	return d
}

// numberOf gives the number of the node of that name; -1, if there is none.
func numberOf(d api.Def, name string) int {
	return slices.IndexFunc(d.Nodes, func(n api.Node) bool { return n.Name == name })
}

// flowOf gives a flow that is told as from>to, with * behind, if it has Else, and then with ? and its If.
func flowOf(d api.Def, text string) api.Flow {
	text, condition, _ := strings.Cut(text, "?")
	text, other := strings.CutSuffix(text, "*")
	from, to, _ := strings.Cut(text, ">")
	return api.Flow{From: numberOf(d, from), To: numberOf(d, to), If: condition, Else: other}
}

// all is a right process that has all kinds.
func all() api.Def {
	return drawn(
		"start:s xor:x task:t sub:u u/start:us u/script:uc u/and:ua u/task:ut u/stop:uq u/end:ue or:o any:y timer:w message:m signal:g send:f and:j ontimer:late@t! onmessage:came@u onsignal:heard@t onerror:broke@u throw:h end:e end:z",
		"s>x x>t?a>1 x>u* t>o u>o us>uc uc>ua ua>ut ua>uq ut>ue o>y?b o>f?!b o>j* y>w y>m y>g w>j m>j g>j f>j j>e late>h came>z heard>z broke>x",
	)
}

// line is the chapter's example.
func line() api.Def { return drawn("start:s task:t end:e", "s>t t>e") }

// changed gives d as it is when that was done to it, in memory of its own.
func changed(d api.Def, do func(d *api.Def)) api.Def {
	d = api.Def{Name: d.Name, Nodes: slices.Clone(d.Nodes), Flows: slices.Clone(d.Flows)}
	do(&d)
	return d
}

// isTold tells unless that is what Check and New say of d, and the model, as a text: nothing, if d may be.
func isTold(t *testing.T, d api.Def, want string) {
	t.Helper()
	if text := wrong(d); text != want {
		t.Fatalf("the model says %q of %+v, not %q", text, d, want)
	}
	for range 2 { // R5
		err := bpmn.Check(d)
		if fault.Text(err) != want || (err == nil) != (want == "") {
			t.Fatalf("Check(%+v) = %q, want %q", d, fault.Text(err), want)
		}
		g, again := bpmn.New(d)
		if fault.Text(again) != want || (again == nil) != (want == "") || (g == nil) == (again == nil) {
			t.Fatalf("New(%+v) = %v, %q, want %q", d, g, fault.Text(again), want)
		}
	}
}

// graphOf gives the graph of a right process.
func graphOf(t *testing.T, d api.Def) *bpmn.Graph {
	t.Helper()
	g, err := bpmn.New(d)
	if err != nil {
		t.Fatalf("New(%+v) = %q", d, fault.Text(err))
	}
	return g
}

// chance gives numbers that are the same each time.
type chance uint64

func (c *chance) of(n int) int {
	*c = *c*6364136223846793005 + 1442695040888963407
	return int(uint64(*c>>33) % uint64(n))
}

// one gives one of these.
func one[E any](c *chance, l ...E) E { return l[c.of(len(l))] }
