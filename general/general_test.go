package general_test

import (
	"slices"
	"strconv"
	"strings"
	"testing"

	"grammarlab/api"
	"grammarlab/general"
	"grammarlab/graph"
	"grammarlab/hier"
	"grammarlab/path"
	"grammarlab/subsume"
)

// fs reads a graph: nodes with semicolons between them, each a type and arcs, each a feature and a node with a colon between them.
func fs(s string) api.FS {
	var f api.FS
	for _, part := range strings.Split(s, ";") {
		words := strings.Fields(part)
		n := api.Node{Type: number(words[0])}
		for _, w := range words[1:] {
			feat, to, _ := strings.Cut(w, ":")
			n.Arcs = append(n.Arcs, api.Arc{Feat: number(feat), To: number(to)})
		}
		f.Nodes = append(f.Nodes, n)
	}
	return f
}

// valid reads a feature structure that is valid for h.
func valid(t *testing.T, h api.Hierarchy, s string) api.FS {
	t.Helper()
	f := fs(s)
	if e := graph.Check(h, f); e != api.OK {
		t.Fatalf("%s: %v", s, e)
	}
	return f
}

// show writes a graph as fs reads it.
func show(f api.FS) string {
	var l []string
	for _, n := range f.Nodes {
		s := strconv.Itoa(n.Type)
		for _, a := range n.Arcs {
			s += " " + strconv.Itoa(a.Feat) + ":" + strconv.Itoa(a.To)
		}
		l = append(l, s)
	}
	return strings.Join(l, "; ")
}

func number(s string) int {
	n, err := strconv.Atoi(s)
	if err != nil {
		panic(err)
	}
	return n
}

// The types of the hierarchy of most tests: c and d are below c&d, which is below a and b.
const (
	top = iota
	a
	b
	ab
	c
	d
)

// diamond returns this hierarchy, with 64 features.
func diamond(t *testing.T) api.Hierarchy {
	t.Helper()
	l := []api.TypeDecl{{Name: "top"}, {Name: "a", Supers: []string{"top"}}, {Name: "b", Supers: []string{"top"}},
		{Name: "c", Supers: []string{"a", "b"}}, {Name: "d", Supers: []string{"a", "b"}}}
	for i := range api.MaxFeats {
		l[0].Feats = append(l[0].Feats, api.FeatDecl{Feat: "F" + strconv.Itoa(i), Value: "top"})
	}
	h, e := hier.Compile(l)
	if e != api.OK || len(h.Types) != 6 || hier.Type(h, "c&d") != ab || hier.Type(h, "c") != c || hier.Type(h, "b") != b {
		t.Fatal(h, e)
	}
	return h
}

// P10.1, P10.4
func TestGeneralize(t *testing.T) {
	h := diamond(t)
	for _, x := range []struct{ f, g, want string }{
		// The examples of the chapter.
		{"0 0:1; 1", "0 0:1; 2", "0 0:1; 0"},
		{"0 0:1 1:1; 1", "0 0:1 1:2; 1; 1", "0 0:1 1:2; 1; 1"},
		{"0 0:0", "0 0:1; 0", "0 0:1; 0"},
		{"0 0:1; 0 0:0", "0 0:1; 0 0:2; 0 0:0", "0 0:1; 0 0:2; 0 0:3; 0 0:4; 0 0:5; 0 0:0"},
		// The types are joined, at each node.
		{"0", "0", "0"}, {"4", "4", "4"}, {"4", "5", "3"}, {"4", "3", "3"}, {"4", "1", "1"}, {"2", "3", "2"}, {"1", "2", "0"}, {"5", "0", "0"},
		{"4 0:1 1:2; 5; 1", "5 0:1 1:2; 5; 4", "3 0:1 1:2; 5; 1"},
		{"1 0:1; 4 0:2; 5", "2 0:1; 5 0:2; 2", "0 0:1; 3 0:2; 2"},
		// Only features that both have remain, and what is below them.
		{"1 0:1; 1", "1 1:1; 1", "1"},
		{"1", "1 1:1; 1", "1"},
		{"1 0:1 1:2 3:3; 1; 4; 5", "1 1:1 2:2 3:3; 1; 1; 5", "1 1:1 3:2; 1; 5"},
		{"1 0:1 2:2 4:3; 1; 1; 1", "1 1:1 3:2 5:3; 1; 1; 1", "1"},
		{"1 0:1 62:2; 1; 1", "1 1:1 63:2; 1; 1", "1"},
		{"1 0:1 63:2; 1; 4", "1 63:1; 5", "1 63:1; 3"},
		{"0 0:1; 0 1:2; 0 2:3; 4", "0 0:1; 0 2:2; 0 2:3; 4", "0 0:1; 0"},
		{"0 0:1; 1 1:2; 1", "0 0:1; 2", "0 0:1; 0"},
		// Paths lead to one node if they do in both.
		{"0 0:1 1:1; 4", "0 0:1 1:1; 5", "0 0:1 1:1; 3"},
		{"0 0:1 1:1; 4", "0 0:1 1:2; 5; 1", "0 0:1 1:2; 3; 1"},
		{"0 0:1 1:1 2:2; 4; 4", "0 0:1 1:2 2:2; 4; 4", "0 0:1 1:2 2:3; 4; 4; 4"},
		{"0 0:1 1:1 2:1; 4", "0 0:1 1:2 2:1; 4; 5", "0 0:1 1:2 2:1; 4; 3"},
		{"0 0:1 1:1; 0 2:2; 4", "0 0:1 1:3; 0 2:2; 4; 0 2:2", "0 0:1 1:3; 0 2:2; 4; 0 2:2"},
		{"0 0:1 1:3; 0 2:2; 4; 0 2:2", "0 0:1 1:3; 0 2:2; 4; 0 2:4; 4", "0 0:1 1:3; 0 2:2; 4; 0 2:4; 4"},
		// One node of the one structure, and several ones of the other one, in another order than there.
		{"0 0:1 1:1 2:1; 0", "0 0:1 1:3 2:2; 1 3:2; 2; 4 3:2", "0 0:1 1:2 2:3; 0; 0; 0"},
		{"0 0:1 1:3 2:2; 0 3:2; 0; 0", "0 0:1 1:3 2:2; 0 4:2; 0; 0", "0 0:1 1:2 2:3; 0; 0; 0"},
		// Nodes are numbered depth first, as the arcs are that remain.
		{"0 0:1 1:4; 1 0:2 1:3; 2; 4; 5", "0 0:1 1:3; 1 1:2; 4; 5", "0 0:1 1:3; 1 1:2; 4; 5"},
		{"0 0:1 1:3; 1 0:2 1:3; 2; 4", "0 0:1 1:2; 1 0:2; 2", "0 0:1 1:3; 1 0:2; 2; 2"},
		// A pair that an arc of the root leads to, and first an arc of a pair below it.
		{"0 0:1 1:2; 1 0:2; 2", "0 0:1 1:2; 1 0:2; 2", "0 0:1 1:2; 1 0:2; 2"},
		{"0 0:1 1:3 2:2; 1 0:2; 2; 4 0:2", "0 0:1 1:3 2:2; 1 0:2; 2; 5 0:2", "0 0:1 1:3 2:2; 1 0:2; 2; 3 0:2"},
		// Cycles.
		{"4 0:0", "4 0:0", "4 0:0"},
		{"4 0:0", "5 0:0", "3 0:0"},
		{"1 0:0", "1 0:1; 0 0:2; 1", "1 0:1; 0 0:2; 1"},
		{"0 0:0", "0 0:1; 0 0:0", "0 0:1; 0 0:0"},
		{"0 0:0", "0 0:1; 0 0:1", "0 0:1; 0 0:1"},
		{"0 0:1; 0 0:1", "0 0:1; 0 0:0", "0 0:1; 0 0:2; 0 0:1"},
		{"4 0:1; 5 0:0", "4 0:1; 4 0:2; 5 0:3; 4 0:0", "4 0:1; 3 0:2; 3 0:3; 3 0:0"},
		{"0 0:0 1:0", "0 0:1; 0 1:0", "0 0:1; 0 1:0"},
		{"0 0:0 1:1; 4", "0 0:0 1:0", "0 0:0 1:1; 0"},
		{"0 0:0 1:0", "0 0:1 1:0; 0 0:0 1:1", "0 0:1 1:0; 0 0:0 1:1"},
		{"0 0:1 1:0; 0 0:0 1:1", "0 0:0 1:1; 0 0:1 1:0", "0 0:1 1:3; 0 0:0 1:2; 0 0:3 1:1; 0 0:2 1:0"},
	} {
		f, g := valid(t, h, x.f), valid(t, h, x.g)
		if got := show(general.Generalize(h, f, g)); got != x.want {
			t.Errorf("Generalize of %s and %s: %s, not %s", x.f, x.g, got, x.want)
		}
		if got := show(general.Generalize(h, g, f)); got != x.want {
			t.Errorf("Generalize of %s and %s: %s, not %s", x.g, x.f, got, x.want)
		}
		for _, y := range []api.FS{f, g} {
			if got := show(general.Generalize(h, y, y)); got != show(y) {
				t.Errorf("Generalize of %s and itself: %s", show(y), got)
			}
		}
	}
}

// P10.2, P10.4
func TestAll(t *testing.T) {
	h := diamond(t)
	for _, x := range []struct {
		l    []string
		want string
	}{
		{[]string{"4"}, "4"},
		{[]string{"4 0:1 1:0; 5 1:1"}, "4 0:1 1:0; 5 1:1"},
		{[]string{"4", "5"}, "3"},
		{[]string{"4", "4", "4", "4"}, "4"},
		{[]string{"4", "5", "4", "3"}, "3"},
		{[]string{"4", "5", "4", "1"}, "1"},
		{[]string{"4", "3", "1", "2"}, "0"},
		{[]string{"0 0:1 1:1; 4", "0 0:1 1:2; 4; 5", "0 1:1; 5"}, "0 1:1; 3"},
		{[]string{"4 0:1; 4", "4 0:1 1:2; 4; 4", "4 0:1; 5"}, "4 0:1; 3"},
		{[]string{"0 0:1 1:1; 4", "0 1:1 2:1; 4", "0 0:1 2:1; 4"}, "0"},
		{[]string{"0 0:1 1:1 2:1; 4", "0 0:1 1:1 2:2; 4; 4", "0 0:1 1:2 2:2; 4; 4"}, "0 0:1 1:2 2:3; 4; 4; 4"},
		{[]string{"4 0:0", "5 0:1; 5 0:0", "4 0:1; 4 0:2; 4 0:0", "3 0:0"}, "3 0:1; 3 0:2; 3 0:3; 3 0:4; 3 0:5; 3 0:0"},
		{[]string{"4 0:0", "4 0:1; 4 0:0", "4 0:1; 4 0:2; 4 0:0", "4 0:1; 4"}, "4 0:1; 4"},
	} {
		var l []api.FS
		for _, s := range x.l {
			l = append(l, valid(t, h, s))
		}
		for range 2 {
			if g, ok := general.All(h, l); !ok || show(g) != x.want {
				t.Errorf("All of %s: %s, %v, not %s", strings.Join(x.l, " | "), show(g), ok, x.want)
			}
			slices.Reverse(l)
		}
	}
	for _, l := range [][]api.FS{nil, {}} {
		if g, ok := general.All(h, l); ok || g.Nodes != nil {
			t.Errorf("All of no elements: %s, %v", show(g), ok)
		}
	}
}

// P10.1: the joins are those of the hierarchy, also where it adds types.
func TestJoins(t *testing.T) {
	h, e := hier.Compile(append(hier.Prelude(), api.TypeDecl{Name: "left", Supers: []string{"index", "rel"}}, api.TypeDecl{Name: "right", Supers: []string{"index", "rel"}}))
	if e != api.OK {
		t.Fatal(e)
	}
	for i := range h.Types {
		for k := range h.Types {
			f := api.FS{Nodes: []api.Node{{Type: i, Arcs: []api.Arc{{Feat: 2, To: 1}}}, {Type: k}}}
			g := api.FS{Nodes: []api.Node{{Type: k, Arcs: []api.Arc{{Feat: 2, To: 1}}}, {Type: k}}}
			got := general.Generalize(h, f, g)
			if len(got.Nodes) != 2 || got.Nodes[0].Type != hier.Join(h, i, k) || got.Nodes[1].Type != k {
				t.Errorf("Generalize of %s and %s: %s", show(f), show(g), show(got))
			}
		}
	}
	name := func(s string) api.FS { return graph.Atom(hier.Type(h, s)) }
	for _, x := range []struct{ f, g, want string }{
		{"cons", "null", "list"}, {"cons", "dlist", "top"}, {"left", "right", "left&right"}, {"left", "event", "index"}, {"right", "rel", "rel"},
	} {
		if got := general.Generalize(h, name(x.f), name(x.g)); len(got.Nodes) != 1 || !graph.Equal(got, name(x.want)) {
			t.Errorf("Generalize of %s and %s: %s", x.f, x.g, show(got))
		}
	}
}

// ring returns a structure of n nodes, each of which leads to the next one with the feature 0, and the last one to the given one.
func ring(n, back int) api.FS {
	f := api.FS{Nodes: make([]api.Node, n)}
	for i := range n {
		f.Nodes[i].Arcs = []api.Arc{{Feat: 0, To: i + 1}}
	}
	f.Nodes[n-1].Arcs[0].To = back
	return f
}

// P10.1, R2: results may have more than MaxNodes nodes, and may be arguments.
func TestLarge(t *testing.T) {
	h := diamond(t)
	large := general.Generalize(h, ring(211, 0), ring(199, 0))
	if !graph.Equal(large, ring(211*199, 0)) || len(large.Nodes) <= api.MaxNodes {
		t.Errorf("two large rings: %d nodes", len(large.Nodes))
	}
	if got := general.Generalize(h, large, ring(2, 0)); !graph.Equal(got, ring(2*211*199, 0)) {
		t.Errorf("a result and a small ring: %d nodes", len(got.Nodes))
	}
	if got := general.Generalize(h, ring(199, 0), large); !graph.Equal(got, large) {
		t.Errorf("a large ring and what subsumes it: %d nodes", len(got.Nodes))
	}
	// The rings begin after 3 and 5 nodes, which makes the longer way the one that is common.
	if got := general.Generalize(h, ring(103, 3), ring(106, 5)); !graph.Equal(got, ring(5+100*101, 5)) {
		t.Errorf("rings that do not begin at the root: %d nodes", len(got.Nodes))
	}
	got, ok := general.All(h, []api.FS{ring(5, 0), ring(7, 0), ring(11, 0), ring(13, 0), ring(35, 0)})
	if !ok || !graph.Equal(got, ring(5005, 0)) {
		t.Errorf("All of rings: %d nodes", len(got.Nodes))
	}
}

// R1, R2: structures may be deeper and larger than what graph.Check accepts.
func TestDeep(t *testing.T) {
	h := diamond(t)
	const n = 1 << 17
	straight := path.Under(make([]int, n), graph.Atom(c))
	if got := general.Generalize(h, straight, path.Under(make([]int, n), graph.Atom(d))); !graph.Equal(got, path.Under(make([]int, n), graph.Atom(ab))) {
		t.Errorf("two deep structures: %d nodes", len(got.Nodes))
	}
	for _, g := range []api.FS{ring(1, 0), ring(n, 0), ring(n-1, 7)} {
		want := path.Under(make([]int, n), graph.Atom(top))
		if got := general.Generalize(h, straight, g); !graph.Equal(got, want) {
			t.Errorf("a deep structure and a cyclic one: %d nodes", len(got.Nodes))
		}
		if got := general.Generalize(h, g, straight); !graph.Equal(got, want) {
			t.Errorf("a cyclic structure and a deep one: %d nodes", len(got.Nodes))
		}
	}
	if got, ok := general.All(h, []api.FS{straight}); !ok || !graph.Equal(got, straight) {
		t.Errorf("All of a deep structure: %d nodes", len(got.Nodes))
	}
}

// P10.1: each pair is visited once, whatever the number of paths to it is; a node may have an arc for each feature.
func TestManyPaths(t *testing.T) {
	h := diamond(t)
	build := func(n, last int) api.FS {
		f := api.FS{Nodes: make([]api.Node, n+1)}
		for i := range n {
			for feat := range api.MaxFeats {
				f.Nodes[i].Arcs = append(f.Nodes[i].Arcs, api.Arc{Feat: feat, To: i + 1})
			}
		}
		f.Nodes[n].Type = last
		return f
	}
	if got := general.Generalize(h, build(1000, c), build(1000, d)); !graph.Equal(got, build(1000, ab)) {
		t.Errorf("two structures with many paths: %d nodes", len(got.Nodes))
	}
	// The last arc of each node leads to the node after the next one, so that a node of the other structure has pairs with many nodes.
	const n = 100
	skip := build(n, top)
	for i := range n - 1 {
		skip.Nodes[i].Arcs[api.MaxFeats-1].To = i + 2
	}
	got := general.Generalize(h, skip, build(n, top))
	if !subsume.Subsumes(h, got, skip) || !subsume.Subsumes(h, got, build(n, top)) || len(got.Nodes) < n*n/5 {
		t.Errorf("structures with different sharing: %d nodes", len(got.Nodes))
	}
}

// R5: arguments are not changed, with the spare capacity of their lists, and what was returned is not changed later.
func TestImmutable(t *testing.T) {
	h := diamond(t)
	texts := []string{"4 0:1 1:1 2:0; 3", "4 0:1 1:2 2:3; 3; 1; 2", "4 0:1 1:2 3:0; 1; 4"}
	var l []api.FS
	for _, s := range append(texts, "0") {
		f := fs(s + "; 9 9:9")
		f.Nodes = f.Nodes[:len(f.Nodes)-1]
		for i := range f.Nodes {
			arcs := append(f.Nodes[i].Arcs, api.Arc{Feat: 77, To: 77})
			f.Nodes[i].Arcs = arcs[:len(arcs)-1]
		}
		l = append(l, f)
	}
	l = l[:len(texts)]
	check := func(what string) {
		t.Helper()
		if show(l[:4][3]) != "0" {
			t.Fatalf("the spare capacity of the list after %s", what)
		}
		for i, f := range l {
			if got := show(api.FS{Nodes: f.Nodes[:len(f.Nodes)+1]}); got != texts[i]+"; 9 9:9" {
				t.Fatalf("the argument after %s: %s", what, got)
			}
			for _, n := range f.Nodes {
				if n.Arcs[:len(n.Arcs)+1][len(n.Arcs)] != (api.Arc{Feat: 77, To: 77}) {
					t.Fatalf("the spare capacity of the arcs after %s", what)
				}
			}
		}
	}
	two := general.Generalize(h, l[0], l[1])
	same := general.Generalize(h, l[0], l[0])
	check("Generalize")
	all, _ := general.All(h, l)
	one, _ := general.All(h, l[:1])
	check("All")
	if show(two) != "4 0:1 1:2 2:3; 3; 1; 2" || show(same) != texts[0] || show(all) != "4 0:1 1:2; 1; 1" || show(one) != texts[0] {
		t.Fatalf("%s, %s, %s and %s", show(two), show(same), show(all), show(one))
	}
	for _, f := range []api.FS{two, same, all, one} {
		f.Nodes[0].Type = 9
		f.Nodes[0].Arcs[1].To = 0
		f.Nodes[0].Arcs = append(f.Nodes[0].Arcs, api.Arc{Feat: 9, To: 0})
	}
	check("changes of the results")
	again, _ := general.All(h, l)
	if show(general.Generalize(h, l[0], l[1])) != "4 0:1 1:2 2:3; 3; 1; 2" || show(again) != "4 0:1 1:2; 1; 1" {
		t.Errorf("All again: %s", show(again))
	}
}
