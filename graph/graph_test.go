package graph_test

import (
	"math"
	"slices"
	"strconv"
	"strings"
	"testing"

	"grammarlab/api"
	"grammarlab/graph"
	"grammarlab/hier"
)

// fs reads a graph: nodes with semicolons between them, each a type and arcs, each a feature and a node with a colon between them.
func fs(s string) api.FS {
	var f api.FS
	if s == "" {
		return f
	}
	for _, part := range strings.Split(s, ";") {
		words := strings.Fields(part)
		n := api.Node{Type: number(words[0])}
		for _, w := range words[1:] {
			feat, to, _ := strings.Cut(w, ":")
			n.Arcs = append(n.Arcs, api.Arc{Feat: number(feat), To: number(to)})
		}
		f.Nodes = append(f.Nodes, n)
	}
	return f
}

func number(s string) int {
	n, err := strconv.Atoi(s)
	if err != nil {
		panic(err)
	}
	return n
}

// show writes a graph as fs reads it.
func show(f api.FS) string {
	var l []string
	for _, n := range f.Nodes {
		s := strconv.Itoa(n.Type)
		for _, a := range n.Arcs {
			s += " " + strconv.Itoa(a.Feat) + ":" + strconv.Itoa(a.To)
		}
		l = append(l, s)
	}
	return strings.Join(l, "; ")
}

// chain returns a graph of n nodes in which each leads to the next one, and the last one to the given one, if it is not -1.
func chain(n, back int) api.FS {
	f := api.FS{Nodes: make([]api.Node, n)}
	for i := range n {
		to := i + 1
		if to == n {
			to = back
		}
		if to >= 0 {
			f.Nodes[i] = api.Node{Type: i % 7, Arcs: []api.Arc{{Feat: i % 3, To: to}}}
		}
	}
	return f
}

// P7.1
func TestAtom(t *testing.T) {
	for _, typ := range []int{0, 1, 6, 255, math.MaxInt} {
		f := graph.Atom(typ)
		if len(f.Nodes) != 1 || f.Nodes[0].Type != typ || len(f.Nodes[0].Arcs) != 0 {
			t.Errorf("Atom(%d): %v", typ, f)
		}
	}
}

// P7.2: graphs and their canonical forms.
func TestCanon(t *testing.T) {
	for _, x := range []struct{ s, want string }{
		// The examples of the chapter.
		{"4 7:2 3:1; 5; 6 2:0", "4 3:1 7:2; 5; 6 2:0"},
		{"1 0:2 1:1; 2; 3 0:1", "1 0:1 1:2; 3 0:2; 2"},
		{"1 5:0", "1 5:0"},
		// Nodes are numbered depth first: 2, the value of 1 at the root, comes after what is below the value of 0.
		{"0 0:1 1:2; 1 0:3; 2; 3", "0 0:1 1:3; 1 0:2; 3; 2"},
		// A node gets its number from the first arc by which the traversal comes to it, not from the nearest to the root.
		{"0 0:1 1:3; 1 5:2; 2 5:3; 3 5:4; 4", "0 0:1 1:3; 1 5:2; 2 5:3; 3 5:4; 4"},
		{"0 0:1 1:2 2:3; 1 0:3; 2; 3 0:2", "0 0:1 1:3 2:2; 1 0:2; 3 0:3; 2"},
		// Nodes that are not reachable, also those that lead to the others and to each other.
		{"0; 1", "0"},
		{"0; 1 0:0 1:2; 2 0:1", "0"},
		{"0 3:2; 1 0:2 1:0; 2 4:2", "0 3:1; 2 4:1"},
		// Cycles.
		{"0 0:2; 1 0:0; 2 0:1", "0 0:1; 2 0:2; 1 0:0"},
		{"0 1:0 0:0", "0 0:0 1:0"},
		{"0 1:1 0:1; 1 1:0 0:1", "0 0:1 1:1; 1 0:1 1:0"},
		// Equal nodes remain different ones.
		{"0 1:1 0:2; 5; 5", "0 0:1 1:2; 5; 5"},
		// Features that are not small, and that are equal at several nodes.
		{"9 9223372036854775807:1 10:0 9:1; 9223372036854775807 10:0", "9 9:1 10:0 9223372036854775807:1; 9223372036854775807 10:0"},
		{"0", "0"},
	} {
		f, e := graph.Canon(fs(x.s))
		if e != api.OK || show(f) != x.want {
			t.Errorf("Canon of %s: %s, %v, not %s", x.s, show(f), e, x.want)
		}
	}
}

// P7.2: each error, and the first one of several.
func TestCanonErrors(t *testing.T) {
	for _, x := range []struct {
		s    string
		want api.Errno
	}{
		{"", api.ErrArg},
		{"-1", api.ErrRange},
		{"-9223372036854775808", api.ErrRange},
		{"0 -1:0", api.ErrRange},
		{"0 0:-1", api.ErrRange},
		{"0 0:1", api.ErrRange},
		{"0 0:9223372036854775807", api.ErrRange},
		{"0 0:2; 0 1:2", api.ErrRange},
		{"0 0:1; 0 1:-9223372036854775808", api.ErrRange},
		{"0 3:0 3:0", api.ErrExists},
		{"0 3:0 3:1; 0", api.ErrExists},
		{"0 3:0 2:0 3:0", api.ErrExists},
		{"0 0:1; 1 2:0 1:1 2:1", api.ErrExists},
		// The same feature at several nodes is no error.
		{"0 3:1; 0 3:1", api.OK},
		// Nodes that are not reachable.
		{"0; -1", api.ErrRange},
		{"0; 0 -1:0", api.ErrRange},
		{"0; 0 0:2", api.ErrRange},
		{"0; 0 1:0 1:0", api.ErrExists},
		// The first node with an error decides, and at a node the type, and then the first arc.
		{"0 3:0 3:0; -1", api.ErrExists},
		{"-1; 0 3:0 3:0", api.ErrRange},
		{"-1 3:0 3:0", api.ErrRange},
		{"0 3:0 3:0 -1:0", api.ErrExists},
		{"0 3:0 3:0 4:1", api.ErrExists},
		{"0 -1:0 3:0 3:0", api.ErrRange},
		{"0 3:0 4:1 3:0", api.ErrRange},
		// For one arc ErrRange comes first.
		{"0 3:0 3:1", api.ErrRange},
		{"0 3:0 3:-1", api.ErrRange},
		{"0 -3:0 -3:0", api.ErrRange},
	} {
		f, e := graph.Canon(fs(x.s))
		if e != x.want || e != api.OK && f.Nodes != nil {
			t.Errorf("Canon of %s: %s, %v, not %v", x.s, show(f), e, x.want)
		}
		if c := graph.Check(api.Hierarchy{}, fs(x.s)); x.want != api.OK && c != x.want {
			t.Errorf("Check of %s: %v, not %v", x.s, c, x.want)
		}
	}
	for _, f := range []api.FS{{Nodes: []api.Node{}}, {Nodes: chain(9, 3).Nodes[:0]}} {
		if g, e := graph.Canon(f); e != api.ErrArg || g.Nodes != nil {
			t.Errorf("Canon without nodes: %v, %v", g, e)
		}
	}
}

// P7.2, P7.3: as many nodes as there may be, and more.
func TestMaxNodes(t *testing.T) {
	h := api.Hierarchy{Types: make([]api.Type, 7), Feats: make([]api.Feature, 3)}
	most := chain(api.MaxNodes, 9)
	if f, e := graph.Canon(most); e != api.OK || !graph.Equal(f, most) {
		t.Errorf("Canon of MaxNodes nodes: %v", e)
	}
	if e := graph.Check(h, most); e != api.OK {
		t.Errorf("Check of MaxNodes nodes: %v", e)
	}
	backwards := api.FS{Nodes: slices.Clone(most.Nodes)}
	slices.Reverse(backwards.Nodes[1:])
	for i, n := range backwards.Nodes {
		to := (api.MaxNodes - n.Arcs[0].To) % api.MaxNodes
		backwards.Nodes[i].Arcs = []api.Arc{{Feat: n.Arcs[0].Feat, To: to}}
	}
	if f, e := graph.Canon(backwards); e != api.OK || !graph.Equal(f, most) {
		t.Errorf("Canon of MaxNodes nodes in another order: %v", e)
	}
	if e := graph.Check(h, backwards); e != api.ErrOrder {
		t.Errorf("Check of MaxNodes nodes in another order: %v", e)
	}

	loose := api.FS{Nodes: make([]api.Node, api.MaxNodes)}
	if f, e := graph.Canon(loose); e != api.OK || show(f) != "0" {
		t.Errorf("Canon with MaxNodes - 1 nodes that are not reachable: %d nodes, %v", len(f.Nodes), e)
	}
	wrong := chain(api.MaxNodes+1, -1)
	wrong.Nodes[0] = fs("-1 -1:0 2:0 2:-1").Nodes[0]
	for _, f := range []api.FS{chain(api.MaxNodes+1, -1), {Nodes: make([]api.Node, api.MaxNodes+1)}, wrong} {
		if g, e := graph.Canon(f); e != api.ErrTooLong || g.Nodes != nil {
			t.Errorf("Canon of %d nodes: %v", len(f.Nodes), e)
		}
		if e := graph.Check(h, f); e != api.ErrTooLong {
			t.Errorf("Check of %d nodes: %v", len(f.Nodes), e)
		}
	}
}

// P7.2: a node may have any number of arcs.
func TestManyArcs(t *testing.T) {
	const n = 100000
	f := fs("0; 1; 2 3:0")
	for i := range n {
		f.Nodes[0].Arcs = append(f.Nodes[0].Arcs, api.Arc{Feat: 2*n - 2*i, To: 2 - i%2})
	}
	g, e := graph.Canon(f)
	if e != api.OK || len(g.Nodes) != 3 || g.Nodes[1].Type != 1 || len(g.Nodes[0].Arcs) != n {
		t.Fatalf("Canon: %d nodes, %v", len(g.Nodes), e)
	}
	for i, a := range g.Nodes[0].Arcs {
		if a != (api.Arc{Feat: 2*i + 2, To: 1 + i%2}) {
			t.Fatalf("arc %d is %v", i, a)
		}
	}
	f.Nodes[0].Arcs = append(f.Nodes[0].Arcs, f.Nodes[0].Arcs[n/2])
	if _, e := graph.Canon(f); e != api.ErrExists {
		t.Errorf("Canon with a feature twice: %v", e)
	}
}

// P7.3: each error, and the first one of several.
func TestCheck(t *testing.T) {
	h, e := hier.Compile([]api.TypeDecl{
		{Name: "top", Feats: []api.FeatDecl{{Feat: "F", Value: "top"}, {Feat: "G", Value: "top"}}},
		{Name: "x", Supers: []string{"top"}}, {Name: "y", Supers: []string{"top"}}})
	if e != api.OK || len(h.Types) != 3 || len(h.Feats) != 2 {
		t.Fatal(h, e)
	}
	for _, x := range []struct {
		s    string
		want api.Errno
	}{
		{"0", api.OK},
		{"2", api.OK},
		{"0 0:1 1:2; 1 1:0; 2 0:1", api.OK},
		{"3", api.ErrRange},
		{"0 0:1; 3", api.ErrRange},
		{"0 2:0", api.ErrRange},
		{"0 0:1; 1 1:0 2:0", api.ErrRange},
		// Arcs that do not ascend, nodes that are not in order, and nodes that are not reachable.
		{"0 1:0 0:0", api.ErrOrder},
		{"0 0:2 1:1; 1; 2", api.ErrOrder},
		{"0 0:2 1:1; 1; 1", api.ErrOrder},
		{"0; 1", api.ErrOrder},
		{"0 0:1; 1; 2 0:0", api.ErrOrder},
		{"0 0:1 1:2; 1 1:0; 2 1:0 0:1", api.ErrOrder},
		// Errors of Canon come first, then types and features of all nodes, reachable or not.
		{"3 0:0 0:0", api.ErrExists},
		{"3; 0 0:0 0:0", api.ErrExists},
		{"0 2:0; 0 1:0 1:0", api.ErrExists},
		{"0 1:0 0:0; 3", api.ErrRange},
		{"0; 0 2:0", api.ErrRange},
		{"0 2:1 0:1; 0", api.ErrRange},
	} {
		if e := graph.Check(h, fs(x.s)); e != x.want {
			t.Errorf("Check of %s: %v, not %v", x.s, e, x.want)
		}
	}
	if e := graph.Check(api.Hierarchy{}, fs("0")); e != api.ErrRange {
		t.Errorf("Check without types: %v", e)
	}
	if e := graph.Check(api.Hierarchy{Types: h.Types}, fs("0 0:0")); e != api.ErrRange {
		t.Errorf("Check without features: %v", e)
	}
}

// P7.4
func TestSub(t *testing.T) {
	for _, x := range []struct {
		s    string
		n    int
		want string
	}{
		{"1 0:1 1:2; 3 0:2; 2", 1, "3 0:1; 2"},
		{"1 0:1 1:2; 3 0:2; 2", 2, "2"},
		{"1 0:1 1:2; 3 0:2; 2", 0, "1 0:1 1:2; 3 0:2; 2"},
		{"2 0:1 1:2; 3 5:2; 4 1:0", 2, "4 1:1; 2 0:2 1:0; 3 5:0"},
		{"2 0:1 1:2; 3 5:2; 4 1:0", 1, "3 5:1; 4 1:2; 2 0:0 1:1"},
		{"1 5:0", 0, "1 5:0"},
		{"0 1:1; 1 2:1", 1, "1 2:0"},
		{"0 0:1; 1 0:2 1:3; 2 0:3 1:2; 3", 1, "1 0:1 1:2; 2 0:2 1:1; 3"},
		{"0", 0, "0"},
	} {
		if got := show(graph.Sub(fs(x.s), x.n)); got != x.want {
			t.Errorf("Sub of %s at %d: %s, not %s", x.s, x.n, got, x.want)
		}
	}
}

// P7.5
func TestCyclic(t *testing.T) {
	for s, want := range map[string]bool{
		"0":                              false,
		"0 0:0":                          true,
		"0 0:1; 1":                       false,
		"0 0:1; 1 0:0":                   true,
		"0 0:1; 1 0:1":                   true,
		"0 0:1 1:1; 1":                   false,
		"0 0:1 1:2; 1 0:2; 2":            false,
		"0 0:1 1:2; 1 0:2; 2 0:1":        true,
		"0 0:1 1:3; 1 0:2; 2; 3 0:1":     false,
		"0 0:1 1:3; 1 0:2; 2; 3 0:3":     true,
		"0 0:1; 1 0:2; 2 0:3; 3 0:1":     true,
		"0 0:1; 1 0:2; 2 0:3 1:3; 3":     false,
		"0 0:1 1:2 2:3; 1 9:2; 2 9:3; 3": false,
	} {
		if got := graph.Cyclic(fs(s)); got != want {
			t.Errorf("Cyclic of %s: %v", s, got)
		}
	}
}

// P7.6, P7.7: each graph of the list comes before those after it, which differ in one of the numbers.
func TestCompare(t *testing.T) {
	l := []string{
		"",
		"-9223372036854775808",
		"-1",
		"0",
		"0 9:9",
		"0 0:0 0:0",
		"0 1:0 0:0",
		"1",
		"9223372036854775807",
		"0; 0",
		"0; 1",
		"0; 1 -1:0",
		"0; 1 0:0",
		"0 0:-9223372036854775808; 0",
		"0 0:0; 5",
		"0 0:1; 0",
		"0 0:1; 0 0:0",
		"0 0:1; 1",
		"0 1:0; 0",
		"0 1:0; 9 3:3 3:3 3:3",
		"0 0:0 0:1; 0",
		"0 0:0 1:0; 0",
		"0 0:1 0:0; 0",
		"1; 0",
		"0; 0; 0",
		"0 0:1 1:2; 1; 2",
	}
	for i, a := range l {
		for k, b := range l {
			want := 0
			if i < k {
				want = -1
			} else if i > k {
				want = 1
			}
			if c := graph.Compare(fs(a), fs(b)); c != want {
				t.Errorf("Compare of %s and %s: %d", a, b, c)
			}
			if graph.Equal(fs(a), fs(b)) != (i == k) {
				t.Errorf("Equal of %s and %s", a, b)
			}
		}
	}
	// R4
	if a, b := fs("3"), (api.FS{Nodes: []api.Node{{Type: 3, Arcs: []api.Arc{}}}}); !graph.Equal(a, b) || graph.Compare(a, b) != 0 {
		t.Error("a list of arcs that is empty and one that is nil")
	}
}

// R1, R2: functions return for graphs that are deeper, and larger, than what Canon accepts.
func TestDeep(t *testing.T) {
	const n = 1 << 20
	straight, round := chain(n, -1), chain(n, 1)
	if graph.Cyclic(straight) || !graph.Cyclic(round) {
		t.Error("Cyclic")
	}
	if !graph.Equal(graph.Sub(straight, 0), straight) || !graph.Equal(graph.Sub(round, 0), round) {
		t.Error("Sub at the root")
	}
	if f := graph.Sub(straight, n-2); show(f) != show(api.FS{Nodes: []api.Node{{Type: (n - 2) % 7, Arcs: []api.Arc{{Feat: (n - 2) % 3, To: 1}}}, {}}}) {
		t.Errorf("Sub at the end: %s", show(f))
	}
	if f := graph.Sub(round, n-1); len(f.Nodes) != n-1 || f.Nodes[n-2].Arcs[0].To != 0 {
		t.Errorf("Sub in the cycle: %d nodes", len(f.Nodes))
	}
	if graph.Compare(straight, round) != -1 || graph.Compare(round, straight) != 1 {
		t.Error("Compare")
	}
}

// R5: arguments are not changed, with the spare capacity of their lists, and what was returned is not changed later.
func TestImmutable(t *testing.T) {
	const text = "4 7:2 3:1; 5; 6 2:0 1:1; 9 9:0 8:8"
	f := fs(text)
	f.Nodes = f.Nodes[:3]
	for i := range f.Nodes {
		arcs := append(f.Nodes[i].Arcs, api.Arc{Feat: 77, To: 77})
		f.Nodes[i].Arcs = arcs[:len(arcs)-1]
	}
	check := func(what string) {
		t.Helper()
		if got := show(api.FS{Nodes: f.Nodes[:4]}); got != text {
			t.Fatalf("the argument after %s: %s", what, got)
		}
		for _, n := range f.Nodes {
			if n.Arcs[:len(n.Arcs)+1][len(n.Arcs)] != (api.Arc{Feat: 77, To: 77}) {
				t.Fatalf("the spare capacity of the arcs after %s", what)
			}
		}
	}
	g, e := graph.Canon(f)
	check("Canon")
	if e != api.OK || graph.Check(api.Hierarchy{}, f) != api.ErrRange {
		t.Error("Canon or Check")
	}
	check("Check")
	kept := show(g)
	sub := graph.Sub(g, 2)
	atom := graph.Atom(3)
	graph.Cyclic(g)
	graph.Compare(g, f)
	graph.Equal(g, f)
	if again, _ := graph.Canon(g); show(again) != kept || show(g) != kept || show(sub) != "6 1:1 2:2; 5; 4 3:1 7:0" {
		t.Errorf("%s and %s", show(g), show(sub))
	}
	g.Nodes[0].Arcs[0].To, sub.Nodes[0].Type, atom.Nodes[0].Type = 9, 9, 9
	check("changes of the results")
	if again, _ := graph.Canon(f); show(again) != kept || show(graph.Atom(3)) != "3" {
		t.Errorf("Canon again: %s", show(again))
	}
}
