package bpmn_test

import (
	"math"
	"slices"
	"strconv"
	"strings"
	"testing"

	"conductor/api"
)

// P13.1: what may be, the chapter's example among it.
func TestCheckTakes(t *testing.T) {
	for _, d := range []api.Def{
		line(),
		all(),
		drawn("start:s end:e", "s>e"),
		drawn("end:e start:s", "s>e"),
		drawn("start:s stop:e", "s>e"),
		drawn("start:s throw:e", "s>e"),
		// a way in from itself alone, or from nothing that is reached
		drawn("start:s end:e task:t", "s>e t>t"),
		drawn("start:s end:e task:t script:c", "s>e t>c c>t"),
		drawn("start:s end:e xor:x end:f", "s>e x>x?a x>f*"),
		drawn("start:s and:a end:e", "s>a a>a a>e"),
		// gateways of any number of ins and outs, one at least
		drawn("start:s xor:x end:e", "s>x x>e"),
		drawn("start:s or:x end:e", "s>x x>e"),
		drawn("start:s and:x end:e", "s>x x>e"),
		drawn("start:s any:y timer:w end:e", "s>y y>w w>e"),
		drawn("start:s xor:x task:t task:v end:e", "s>x x>t?a x>v?b t>e v>e"),
		drawn("start:s xor:x task:t task:v end:e", "s>x x>t* x>v?b t>e v>e"),
		drawn("start:s or:x task:t task:v end:e", "s>x x>t?a x>v* t>e v>e"),
		// one Else at each node
		drawn("start:s xor:x or:o task:t end:e", "s>x x>o?a x>t* o>e?b o>t* t>e"),
		// a catch of its own has many ins, one behind an any just that one
		drawn("start:s and:a timer:w end:e task:t", "s>a a>w a>t t>w w>e"),
		drawn("start:s any:y timer:w message:m signal:g end:e", "s>y y>w y>m y>g w>e m>e g>e"),
		// subprocesses
		drawn("sub:u u/start:us u/end:ue start:s end:e", "us>ue s>u u>e"),
		drawn("start:s sub:u u/start:us u/sub:v v/start:vs v/end:ve u/end:ue end:e", "s>u us>v vs>ve v>ue u>e"),
		drawn("start:s sub:u sub:v end:e v/end:ve u/end:ue v/start:vs u/start:us", "s>u u>v v>e us>ue vs>ve"),
		// bounds, one behind the other at one node, and within a subprocess
		drawn("start:s task:t end:e ontimer:o@t ontimer:q@t! onerror:r@t onerror:x@t", "s>t t>e o>e q>e r>e x>e"),
		drawn("start:s sub:u u/start:us u/task:t u/onsignal:o@t u/end:ue end:e onmessage:m@u!", "s>u us>t t>ue o>t u>e m>u"),
		changed(drawn("start:s task:t onerror:r@t end:e", "s>t t>e r>e"), func(d *api.Def) { d.Nodes[2].Text = "code" }),
	} {
		isTold(t, d, "")
	}
}

// isToldThen tells unless a process may be, and what is told of it when something was done to it.
func isToldThen(t *testing.T, d api.Def, do func(d *api.Def), want string) {
	t.Helper()
	isTold(t, d, "")
	isTold(t, changed(d, do), want)
}

// P13.1, 1
func TestCheckHead(t *testing.T) {
	for _, x := range []struct {
		do   func(d *api.Def)
		want string
	}{
		{func(d *api.Def) { d.Name = "" }, "error 30"},
		{func(d *api.Def) { d.Name = "A" }, "error 30"},
		{func(d *api.Def) { d.Name = "1" }, "error 30"},
		{func(d *api.Def) { d.Name = strings.Repeat("p", 17) }, "error 30"},
		{func(d *api.Def) { d.Nodes = make([]api.Node, 41) }, "error 3"},
		{func(d *api.Def) { d.Nodes = make([]api.Node, 40) }, "node 0: error 30"},
		{func(d *api.Def) { d.Flows = make([]api.Flow, 81) }, "error 3"},
		{func(d *api.Def) { d.Flows = make([]api.Flow, 80) }, "flow 0: error 132"},
		{func(d *api.Def) { d.Nodes, d.Flows = nil, make([]api.Flow, 81) }, "error 3"},
		{func(d *api.Def) { d.Nodes, d.Flows = make([]api.Node, 1<<16), make([]api.Flow, 1<<16) }, "error 3"},
		// the name is told first
		{func(d *api.Def) { d.Name, d.Nodes = "", make([]api.Node, 41) }, "error 30"},
		{func(d *api.Def) { d.Name, d.Flows = "", make([]api.Flow, 81) }, "error 30"},
		// and all of this ahead of the nodes
		{func(d *api.Def) { d.Name, d.Nodes[0].Kind = "", -1 }, "error 30"},
		{func(d *api.Def) { d.Nodes, d.Flows = make([]api.Node, 1), make([]api.Flow, 81) }, "error 3"},
	} {
		isToldThen(t, line(), x.do, x.want)
	}
	isTold(t, changed(line(), func(d *api.Def) { d.Name = strings.Repeat("p", 16) }), "")
	isTold(t, api.Def{}, "error 30")
	isTold(t, api.Def{Name: "p"}, "error 131")
	isTold(t, api.Def{Name: "p", Nodes: []api.Node{}, Flows: []api.Flow{}}, "error 131")
}

// crowd gives a right process of so many nodes, and of so many flows, as long as these can go from one to another.
func crowd(nodes, flows int) api.Def {
	d := drawn("start:s end:e", "")
	for len(d.Nodes) < nodes {
		d.Nodes = append(d.Nodes, made(api.NkAnd, "a"+strconv.Itoa(len(d.Nodes))))
	}
	d.Flows = []api.Flow{flow(0, 2), flow(nodes-1, 1)}
	for i := 2; i < nodes-1; i++ {
		d.Flows = append(d.Flows, flow(i, i+1))
	}
	for from := 2; from < nodes; from++ {
		for to := 2; to < nodes && len(d.Flows) < flows; to++ {
			if to != from+1 {
				d.Flows = append(d.Flows, flow(from, to))
			}
		}
	}
	return d
}

func flow(from, to int) api.Flow { return api.Flow{From: from, To: to} }

// P13.1, 1: as many as may be.
func TestCheckMany(t *testing.T) {
	for _, x := range []struct {
		nodes, flows int
		want         string
	}{
		{40, 80, ""},
		{41, 80, "error 3"},
		{40, 81, "error 3"},
		{39, 79, ""},
		{11, 80, ""},
		{40, 39, ""},
	} {
		d := crowd(x.nodes, x.flows)
		if len(d.Nodes) != x.nodes || len(d.Flows) != x.flows {
			t.Fatalf("%d nodes, %d flows", len(d.Nodes), len(d.Flows))
		}
		isTold(t, d, x.want)
	}
}

// P13.1, 2: something done to one node.
func TestCheckNode(t *testing.T) {
	base := drawn("start:s task:t script:c sub:u u/start:us u/end:ue message:m onmessage:b@t throw:h onerror:x@u end:e timer:w signal:g send:f", "s>t t>c c>u us>ue u>m m>w w>g g>f f>e b>h x>e")
	for _, x := range []struct {
		node int
		do   func(n *api.Node)
		want string
	}{
		{1, func(n *api.Node) { n.Kind = -1 }, "error 1"},
		{1, func(n *api.Node) { n.Kind = 19 }, "error 1"},
		{1, func(n *api.Node) { n.Kind = math.MaxInt }, "error 1"},
		{1, func(n *api.Node) { n.Kind = math.MinInt }, "error 1"},
		{1, func(n *api.Node) { n.Kind = 256 + api.NkTask }, "error 1"},
		{0, func(n *api.Node) { n.Name = "" }, "error 30"},
		{1, func(n *api.Node) { n.Name = "T" }, "error 30"},
		{1, func(n *api.Node) { n.Name = strings.Repeat("t", 17) }, "error 30"},
		{1, func(n *api.Node) { n.Name = strings.Repeat("t", 16) }, ""},
		{1, func(n *api.Node) { n.Name = "s" }, "error 130"},
		{1, func(n *api.Node) { n.Name = "true" }, ""},
		{5, func(n *api.Node) { n.Name = "s" }, "error 130"},
		// Up
		{1, func(n *api.Node) { n.Up = -2 }, "error 1"},
		{1, func(n *api.Node) { n.Up = math.MinInt }, "error 1"},
		{1, func(n *api.Node) { n.Up = math.MaxInt }, "error 1"},
		{1, func(n *api.Node) { n.Up = 14 }, "error 1"},
		{1, func(n *api.Node) { n.Up = 0 }, "error 1"},
		{1, func(n *api.Node) { n.Up = 1 }, "error 1"},
		{1, func(n *api.Node) { n.Up = 3 }, "error 1"},
		{3, func(n *api.Node) { n.Up = 3 }, "error 1"},
		{4, func(n *api.Node) { n.Up = 1 }, "error 1"},
		// Text
		{8, func(n *api.Node) { n.Text = "" }, "error 30"},
		{8, func(n *api.Node) { n.Text = "a b" }, "error 30"},
		{8, func(n *api.Node) { n.Text = "noflow" }, ""},
		{8, func(n *api.Node) { n.Text = "has" }, ""},
		{9, func(n *api.Node) { n.Text = "" }, ""},
		{9, func(n *api.Node) { n.Text = "code" }, ""},
		{9, func(n *api.Node) { n.Text = "Code" }, "error 30"},
		{9, func(n *api.Node) { n.Text = strings.Repeat("c", 16) }, ""},
		{9, func(n *api.Node) { n.Text = strings.Repeat("c", 17) }, "error 30"},
		{6, func(n *api.Node) { n.Text = "" }, "error 30"},
		{7, func(n *api.Node) { n.Text = "1" }, "error 30"},
		{12, func(n *api.Node) { n.Text = "-" }, "error 30"},
		{13, func(n *api.Node) { n.Text = "" }, "error 30"},
		{2, func(n *api.Node) { n.Text = "" }, "at 0: error 6"},
		{2, func(n *api.Node) { n.Text = "1 +" }, "at 3: error 6"},
		{2, func(n *api.Node) { n.Text = "a b" }, "at 2: error 8"},
		{2, func(n *api.Node) { n.Text = strings.Repeat(" ", 127) + "1" }, ""},
		{2, func(n *api.Node) { n.Text = strings.Repeat(" ", 128) + "1" }, "error 3"},
		{11, func(n *api.Node) { n.Text = "" }, "at 0: error 6"},
		{11, func(n *api.Node) { n.Text = "$" }, "at 0: error 8"},
		{11, func(n *api.Node) { n.Text = `"no number"` }, ""},
		// Key
		{6, func(n *api.Node) { n.Key = "" }, "at 0: error 6"},
		{6, func(n *api.Node) { n.Key = "a ==" }, "at 4: error 6"},
		{6, func(n *api.Node) { n.Key = strings.Repeat("1", 129) }, "error 3"},
		{7, func(n *api.Node) { n.Key = "" }, "at 0: error 6"},
		{7, func(n *api.Node) { n.Key = "1" }, ""},
		// To
		{2, func(n *api.Node) { n.To = "" }, "error 30"},
		{2, func(n *api.Node) { n.To = "A" }, "error 30"},
		{2, func(n *api.Node) { n.To = "true" }, "error 30"},
		{2, func(n *api.Node) { n.To = "false" }, "error 30"},
		{2, func(n *api.Node) { n.To = "has" }, "error 30"},
		{2, func(n *api.Node) { n.To = "len" }, "error 30"},
		{2, func(n *api.Node) { n.To = "lens" }, ""},
		{2, func(n *api.Node) { n.To = strings.Repeat("v", 16) }, ""},
		{2, func(n *api.Node) { n.To = strings.Repeat("v", 17) }, "error 30"},
		// a bound
		{7, func(n *api.Node) { n.At = -1 }, "error 1"},
		{7, func(n *api.Node) { n.At = -2 }, "error 1"},
		{7, func(n *api.Node) { n.At = math.MinInt }, "error 1"},
		{7, func(n *api.Node) { n.At = math.MaxInt }, "error 1"},
		{7, func(n *api.Node) { n.At = 14 }, "error 1"},
		{7, func(n *api.Node) { n.At = 0 }, "error 1"},
		{7, func(n *api.Node) { n.At = 2 }, "error 1"},
		{7, func(n *api.Node) { n.At = 7 }, "error 1"},
		{7, func(n *api.Node) { n.At = 9 }, "error 1"},
		{7, func(n *api.Node) { n.At = 3 }, ""},
		{9, func(n *api.Node) { n.At = 1 }, ""},
		{9, func(n *api.Node) { n.At = 7 }, "error 1"},
		{9, func(n *api.Node) { n.Stops = false }, "error 1"},
		{7, func(n *api.Node) { n.Up = 3 }, "error 1"},
		{7, func(n *api.Node) { n.Stops = true }, ""},
	} {
		want := x.want
		if want != "" {
			want = "node " + strconv.Itoa(x.node) + ": " + want
		}
		isToldThen(t, base, func(d *api.Def) { x.do(&d.Nodes[x.node]) }, want)
	}
}

// P13.1, 2: At and its bound must come in that order, and lie in one subprocess.
func TestCheckBoundBehind(t *testing.T) {
	d := drawn("start:s ontimer:o task:t end:e", "s>t t>e o>e")
	d.Nodes[1].At = 2
	isTold(t, d, "node 1: error 1")
	d = drawn("start:s sub:u u/start:us u/task:ut u/end:ue task:t end:e u/ontimer:o", "s>u us>ut ut>ue u>t t>e")
	d.Flows = append(d.Flows, flow(7, 4))
	for at, want := range []string{"node 7: error 1", "node 7: error 1", "node 7: error 1", "", "node 7: error 1", "node 7: error 1", "node 7: error 1", "node 7: error 1"} {
		d.Nodes[7].At = at
		isTold(t, d, want)
	}
	d.Nodes[7].Up, d.Flows[5].To = -1, 6
	for at, want := range []string{"node 7: error 1", "", "node 7: error 1", "node 7: error 1", "node 7: error 1", "", "node 7: error 1", "node 7: error 1"} {
		d.Nodes[7].At = at
		isTold(t, d, want)
	}
}

// withNode gives a process whose node 1, of that kind, has so many ins and outs.
func withNode(kind, ins, outs int) api.Def {
	d := drawn("task:at task:n start:s and:a end:e", "s>a a>at at>e a>e")
	d.Nodes[1] = made(kind, "n")
	if holdsAny(kind, "b") {
		d.Nodes[1].At = 0
	}
	add := func(kind, from, to int) {
		i := len(d.Nodes)
		d.Nodes = append(d.Nodes, made(kind, "a"+strconv.Itoa(i)))
		d.Flows = append(d.Flows, flow(from, i), flow(i, to))
	}
	for range ins {
		add(api.NkSend, 3, 1)
	}
	for range outs {
		add(api.NkTimer, 1, 4)
		if outs > 1 && isOneOf(kind, "xor", "or") {
			d.Flows[len(d.Flows)-2].If = "true"
		}
	}
	if kind == api.NkSub {
		i := len(d.Nodes)
		start, end := made(api.NkStart, "us"), made(api.NkEnd, "ue")
		start.Up, end.Up = 1, 1
		d.Nodes = append(d.Nodes, start, end)
		d.Flows = append(d.Flows, flow(i, i+1))
	}
	return d
}

// P13.1, 2: what a kind does not have. All kinds, with what each may have, and with what it may not.
func TestCheckOwn(t *testing.T) {
	for _, kind := range kinds() {
		outs := 1
		if isOneOf(kind, "end", "stop", "throw") {
			outs = 0
		}
		ins := 1
		if kind == api.NkStart || holdsAny(kind, "b") {
			ins = 0
		}
		base, right := withNode(kind, ins, outs), ""
		if kind == api.NkStart {
			right = "error 131" // there are two of them
		}
		isTold(t, base, right)
		for _, x := range []struct {
			letters string
			do      func(n *api.Node)
		}{
			{"xne", func(n *api.Node) { n.Text = "a" }},
			{"k", func(n *api.Node) { n.Key = "a" }},
			{"t", func(n *api.Node) { n.To = "a" }},
			{"b", func(n *api.Node) { n.At = 0 }},
			{"b", func(n *api.Node) { n.Stops = true }},
		} {
			want := "node 1: error 1"
			if holdsAny(kind, x.letters) {
				want = right
			}
			isTold(t, changed(base, func(d *api.Def) { x.do(&d.Nodes[1]) }), want)
		}
		if !holdsAny(kind, "b") { // At is -1 then, and nothing else
			for _, at := range []int{-2, 1, 2, math.MinInt, math.MaxInt} {
				isTold(t, changed(base, func(d *api.Def) { d.Nodes[1].At = at }), "node 1: error 1")
			}
		}
		for _, text := range []string{"", "1 +"} { // of what it has this is wrong
			want := right
			switch {
			case holdsAny(kind, "x"):
				want = "node 1: at " + strconv.Itoa(len(text)) + ": error 6"
			case holdsAny(kind, "n"), text != "" && holdsAny(kind, "e"):
				want = "node 1: error 30"
			case text != "" && !holdsAny(kind, "xne"):
				want = "node 1: error 1"
			}
			isTold(t, changed(base, func(d *api.Def) { d.Nodes[1].Text = text }), want)
		}
	}
}

// P13.1, 2: of one node what is named first, and of several the first one.
func TestCheckNodeOrder(t *testing.T) {
	base := drawn("start:s task:t script:c message:m onmessage:b@t onerror:x@t end:e sub:u u/start:us u/end:ue", "s>t t>c c>m m>u u>e us>ue b>e x>e")
	set := func(i int, all ...func(n *api.Node)) func(d *api.Def) {
		return func(d *api.Def) {
			for _, do := range all {
				do(&d.Nodes[i])
			}
		}
	}
	kind := func(n *api.Node) { n.Kind = 19 }
	name := func(n *api.Node) { n.Name = "A" }
	twice := func(n *api.Node) { n.Name = "s" }
	up := func(n *api.Node) { n.Up = 99 }
	text := func(n *api.Node) { n.Text = "1 +" }
	key := func(n *api.Node) { n.Key = "2 -" }
	to := func(n *api.Node) { n.To = "has" }
	at := func(n *api.Node) { n.At = 0 }
	for _, x := range []struct {
		do   func(d *api.Def)
		want string
	}{
		{set(1, kind, name, up, text, at), "node 1: error 1"},
		{set(1, name, up, text, at), "node 1: error 30"},
		{set(1, twice, up, text, at), "node 1: error 130"},
		{set(2, twice, up, text, to), "node 2: error 130"},
		{set(2, up, text, to), "node 2: error 1"},
		{set(2, text, to, key), "node 2: error 1"},
		{set(2, text, to, at), "node 2: error 1"},
		{set(2, text, to), "node 2: at 3: error 6"},
		{set(2, to), "node 2: error 30"},
		{set(3, text, key, to), "node 3: error 1"},
		{set(3, text, key), "node 3: error 30"},
		{set(3, key), "node 3: at 3: error 6"},
		{set(4, text, key, at), "node 4: error 30"},
		{set(4, key, at), "node 4: at 3: error 6"},
		{set(4, at), "node 4: error 1"},
		{set(5, text, at, func(n *api.Node) { n.Stops = false }), "node 5: error 30"},
		{func(d *api.Def) { d.Nodes[3].Key, d.Nodes[2].To = "", "" }, "node 2: error 30"},
		{func(d *api.Def) { d.Nodes[3].Kind, d.Nodes[4].Name = -1, "" }, "node 3: error 1"},
		{func(d *api.Def) { d.Nodes[6].Name, d.Nodes[5].At = "", 0 }, "node 5: error 1"},
		// all of the nodes ahead of the flows, and of how they lie among these
		{func(d *api.Def) { d.Nodes[9].Name, d.Flows[0].To = "", 99 }, "node 9: error 30"},
		{func(d *api.Def) { d.Nodes[9].Name, d.Flows = "", nil }, "node 9: error 30"},
		{func(d *api.Def) { d.Nodes[9].Text, d.Nodes[0].Kind = "a", api.NkEnd }, "node 9: error 1"},
	} {
		isToldThen(t, base, x.do, x.want)
	}
}

// P13.1, 3: a flow becomes another one; from nothing, it comes at the end.
func TestCheckFlow(t *testing.T) {
	for _, x := range []struct {
		was, is, want string
	}{
		// no node
		{"t>o", ">o", "error 1"},
		{"t>o", "t>", "error 1"},
		{"t>o", "q>q", "error 1"},
		// across a border, each way, and from one subprocess to another one
		{"t>o", "t>uc", "error 131"},
		{"us>uc", "us>t", "error 131"},
		{"us>uc", "u>uc", "error 131"},
		{"us>uc", "us>u", "error 131"},
		{"", "ut>vc", "error 131"},
		{"", "vc>ut", "error 131"},
		{"", "v>vc", "error 131"},
		{"", "ue>us", "error 132"},
		// what ends, and what begins
		{"", "e>t", "error 132"},
		{"", "h>t", "error 132"},
		{"", "uq>ut", "error 132"},
		{"", "t>s", "error 132"},
		{"", "t>late", "error 132"},
		{"", "t>came", "error 132"},
		{"", "t>heard", "error 132"},
		{"", "t>broke", "error 132"},
		{"", "ut>us", "error 132"},
		// twice
		{"", "t>o", "error 130"},
		{"", "x>t?b", "error 130"},
		{"", "x>t*", "error 130"},
		{"x>u*", "x>t*", "error 130"},
		// an If
		{"x>t?a>1", "x>t?1 +", "at 3: error 6"},
		{"x>t?a>1", "x>t? ", "at 1: error 6"},
		{"x>t?a>1", "x>t?)", "at 0: error 8"},
		{"x>t?a>1", "x>t?" + strings.Repeat("a", 129), "error 3"},
		{"x>t?a>1", "x>t?" + strings.Repeat(" ", 127) + "a", ""},
		{"x>t?a>1", "x>t?1", ""},
		{"o>f?!b", "o>f?q", ""},
		// conditions where there is no choice
		{"s>x", "s>x?a", "error 132"},
		{"s>x", "s>x*", "error 132"},
		{"y>w", "y>w?a", "error 132"},
		{"ua>ut", "ua>ut*", "error 132"},
		{"broke>x", "broke>x?a", "error 132"},
		// two conditions
		{"x>t?a>1", "x>t*?a", "error 132"},
		{"x>u*", "x>u*?a", "error 132"},
		{"o>j*", "o>j*?a", "error 132"},
		{"x>u*", "x>u?b", ""},
		{"o>j*", "o>j?b", ""},
		// Else a second time
		{"", "x>j*", "error 132"},
		{"", "o>t*", "error 132"},
		{"", "x>j?c", ""},
		// from an any
		{"y>w", "y>t", "error 132"},
		{"", "y>f", "error 132"},
		{"", "y>e", "error 132"},
		{"", "y>y", "error 132"},
		{"", "y>j", "error 132"},
	} {
		d := all()
		d.Nodes = append(d.Nodes, drawn("sub:v", "").Nodes...)
		for _, n := range drawn("start:vs script:vc end:ve", "").Nodes {
			n.Up = numberOf(d, "v")
			d.Nodes = append(d.Nodes, n)
		}
		for _, text := range []string{"vs>vc", "vc>ve"} {
			d.Flows = append(d.Flows, flowOf(d, text))
		}
		d.Flows[slices.Index(d.Flows, flowOf(d, "came>z"))] = flowOf(d, "came>v")
		d.Flows = append(d.Flows, flowOf(d, "v>z"))
		at := slices.Index(d.Flows, flowOf(d, x.was))
		if x.was == "" {
			at = len(d.Flows)
		}
		want := x.want
		if want != "" {
			want = "flow " + strconv.Itoa(at) + ": " + want
		}
		isToldThen(t, d, func(d *api.Def) {
			d.Flows = slices.Replace(d.Flows, at, min(at+1, len(d.Flows)), flowOf(*d, x.is))
		}, want)
	}
}

// P13.1, 3: numbers of nodes, and none.
func TestCheckFlowNumbers(t *testing.T) {
	for number, is := range map[int]bool{math.MinInt: false, -2: false, -1: false, 3: false, 4: false, 64: false, 1 << 32: false, math.MaxInt: false, 2: true} {
		want := ""
		if !is {
			want = "flow 1: error 1"
		}
		isTold(t, changed(line(), func(d *api.Def) { d.Flows[1].To = number }), want)
		if is {
			want = "flow 1: error 132" // from an end
		}
		isTold(t, changed(line(), func(d *api.Def) { d.Flows[1].From = number }), want)
	}
	isTold(t, api.Def{Name: "p", Flows: []api.Flow{{}}}, "flow 0: error 1")
}

// P13.1, 3: of one flow what is named first, and of several the first one.
func TestCheckFlowOrder(t *testing.T) {
	base := drawn("start:s xor:x any:y timer:w end:e sub:u u/start:us u/task:ut u/end:ue task:t", "s>x x>y?a x>u?b x>e* y>w w>e us>ut ut>ue u>t t>e")
	for _, x := range []struct {
		at   int
		is   string
		want string
	}{
		{3, "e>q?1 +", "error 1"},
		{3, "e>us?1 +", "error 131"},
		{7, "ue>us?1 +", "error 132"},
		{3, "e>u?1 +", "error 132"},
		{3, "x>s*?1 +", "error 132"},
		{3, "x>u*?1 +", "error 130"},
		{3, "x>e*?1 +", "at 3: error 6"},
		{3, "t>e?1 +", "at 3: error 6"},
		{3, "x>e*?1", "error 132"},
		{4, "y>e?1 +", "at 3: error 6"},
		{4, "y>y?1", "error 132"},
	} {
		isToldThen(t, base, func(d *api.Def) { d.Flows[x.at] = flowOf(*d, x.is) }, "flow "+strconv.Itoa(x.at)+": "+x.want)
	}
	// flow by flow
	isToldThen(t, base, func(d *api.Def) { d.Flows[2].If, d.Flows[3].To = "1 +", 99 }, "flow 2: at 3: error 6")
	isToldThen(t, base, func(d *api.Def) { d.Flows[9].From, d.Flows[4].If = -1, "a" }, "flow 4: error 132")
	// ahead of how nodes lie among them
	isToldThen(t, base, func(d *api.Def) { d.Flows[0], d.Flows[9].To = flow(1, 3), 99 }, "flow 9: error 1")
}

// P13.1, 4: all kinds, with any number of ins and outs.
func TestCheckCount(t *testing.T) {
	for _, kind := range kinds() {
		for ins := range 4 {
			for outs := range 4 {
				d, want := withNode(kind, ins, outs), ""
				starts := kind == api.NkStart || holdsAny(kind, "b")
				ends := isOneOf(kind, "end", "stop", "throw")
				switch {
				case starts && ins > 0:
					want = "flow 5: error 132"
				case ends && outs > 0:
					want = "flow " + strconv.Itoa(4+2*ins) + ": error 132"
				case !starts && ins == 0, !ends && outs == 0, outs > 1 && !isOneOf(kind, "xor", "and", "or", "any"):
					want = "node 1: error 132"
				case kind == api.NkStart:
					want = "error 131" // there are two of them
				}
				isTold(t, d, want)
			}
		}
	}
}

// P13.1, 4 and 5: choices, what lies behind an any, and starts; node by node, and of one node what is named first.
func TestCheckLinks(t *testing.T) {
	for _, x := range []struct {
		nodes, flows, want string
	}{
		// a choice of one out
		{"start:s xor:x end:e", "s>x x>e", ""},
		{"start:s xor:x end:e", "s>x x>e?a", "node 1: error 132"},
		{"start:s or:x end:e", "s>x x>e*", "node 1: error 132"},
		{"end:e xor:x start:s", "x>e s>x", ""},
		// and of more
		{"start:s xor:x end:e end:f", "s>x x>e?a x>f?b", ""},
		{"start:s xor:x end:e end:f", "s>x x>e?a x>f*", ""},
		{"start:s xor:x end:e end:f", "s>x x>e* x>f?a", ""},
		{"start:s xor:x end:e end:f", "s>x x>e x>f", "node 1: error 132"},
		{"start:s xor:x end:e end:f", "s>x x>e?a x>f", "node 1: error 132"},
		{"start:s or:x end:e end:f", "s>x x>e x>f?a", "node 1: error 132"},
		{"start:s or:x end:e end:f", "s>x x>e* x>f", "node 1: error 132"},
		{"start:s or:x end:e end:f end:g", "s>x x>e?a x>f x>g*", "node 1: error 132"},
		{"start:s or:x end:e end:f end:g", "s>x x>e?a x>f?b x>g?c", ""},
		// what splits or waits without a choice
		{"start:s and:x end:e end:f", "s>x x>e x>f", ""},
		{"start:s any:x timer:w timer:v end:e", "s>x x>w x>v w>e v>e", ""},
		// behind an any, and others
		{"start:s and:a any:y timer:w end:e", "s>a a>y a>w y>w w>e", "node 3: error 132"},
		{"start:s and:a any:y message:w end:e", "s>a a>y y>w a>w w>e", "node 3: error 132"},
		{"start:s and:a any:y any:v signal:w end:e", "s>a a>y a>v y>w v>w w>e", "node 4: error 132"},
		{"start:s any:y timer:w end:e", "s>y y>w w>w", "node 2: error 132"},
		{"start:s and:a any:y timer:w end:e", "s>a a>y y>w w>a a>e", ""},
		{"start:s and:a timer:y timer:w end:e", "s>a a>y a>w y>w w>e", ""},
		// starts
		{"start:s sub:u u/start:v u/end:f end:e", "s>u u>e v>f", ""},
		{"start:s sub:u end:e", "s>u u>e", "node 1: error 131"},
		{"start:s sub:u u/task:v u/end:f end:e", "s>u u>e v>f", "node 1: error 131"},
		{"start:s sub:u u/xor:v u/end:f end:e", "s>u u>e v>v?a v>f*", "node 1: error 131"},
		{"start:s sub:u u/start:v u/start:w u/end:f end:e", "s>u u>e v>f w>f", "node 1: error 131"},
		{"start:s sub:u u/start:v u/sub:w u/end:f end:e", "s>u u>e v>w w>f", "node 3: error 131"},
		{"start:s sub:u u/sub:w w/start:v w/end:g u/end:f end:e u/start:x", "s>u u>e v>g w>f x>w", ""},
		{"start:s sub:u u/sub:w w/start:v w/end:g u/end:f end:e u/start:x", "s>u u>e v>g w>f x>f", "node 2: error 132"},
		{"start:s sub:u u/sub:w w/start:v w/end:g u/end:f end:e", "s>u u>e v>g w>w", "node 1: error 131"},
		{"start:s start:v end:e", "s>e v>e", "error 131"},
		{"task:t", "t>t", "error 131"},
		{"sub:u u/start:v u/end:f", "u>u v>f", "error 131"},
		{"sub:u u/start:s u/start:v u/end:f", "u>u s>f v>f", "node 0: error 131"},
		{"start:s start:v start:w end:e", "s>e v>e w>e", "error 131"},
		// node by node
		{"start:s end:e task:t sub:u", "s>e t>t u>u", "node 3: error 131"},
		{"start:s end:e sub:u task:t", "s>e u>u", "node 2: error 131"},
		{"start:s end:e task:t sub:u", "s>e", "node 2: error 132"},
		{"start:s end:e xor:x sub:u", "s>e x>x?a u>u", "node 2: error 132"},
		{"start:s end:e sub:u xor:x", "s>e x>x?a u>u", "node 2: error 131"},
		{"start:s end:e any:y and:a timer:w sub:u", "s>e a>y a>w y>w w>a u>u", "node 4: error 132"},
		{"start:s end:e sub:u any:y and:a timer:w", "s>e a>y a>w y>w w>a u>u", "node 2: error 131"},
		{"start:s end:e task:t", "", "node 0: error 132"},
		// a subprocess has too few, ahead of its start
		{"start:s end:e sub:u", "s>e u>e", "node 2: error 132"},
		{"start:s end:e sub:u", "s>u s>e", "node 0: error 132"},
		// all of this ahead of the start of the whole
		{"start:s start:v end:e task:t", "s>e v>e", "node 3: error 132"},
		{"task:t end:e", "t>t", "node 1: error 132"},
		{"end:e", "", "node 0: error 132"},
	} {
		isTold(t, drawn(x.nodes, x.flows), x.want)
	}
}
