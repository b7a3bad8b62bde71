package subsume_test

import (
	"slices"
	"strconv"
	"strings"
	"testing"

	"grammarlab/api"
	"grammarlab/graph"
	"grammarlab/hier"
	"grammarlab/path"
	"grammarlab/subsume"
)

// fs reads a graph: nodes with semicolons between them, each a type and arcs, each a feature and a node with a colon between them.
func fs(s string) api.FS {
	var f api.FS
	for _, part := range strings.Split(s, ";") {
		words := strings.Fields(part)
		n := api.Node{Type: number(words[0])}
		for _, w := range words[1:] {
			feat, to, _ := strings.Cut(w, ":")
			n.Arcs = append(n.Arcs, api.Arc{Feat: number(feat), To: number(to)})
		}
		f.Nodes = append(f.Nodes, n)
	}
	return f
}

// valid reads a feature structure that is valid for h.
func valid(t *testing.T, h api.Hierarchy, s string) api.FS {
	t.Helper()
	f := fs(s)
	if e := graph.Check(h, f); e != api.OK {
		t.Fatalf("%s: %v", s, e)
	}
	return f
}

// show writes a graph as fs reads it.
func show(f api.FS) string {
	var l []string
	for _, n := range f.Nodes {
		s := strconv.Itoa(n.Type)
		for _, a := range n.Arcs {
			s += " " + strconv.Itoa(a.Feat) + ":" + strconv.Itoa(a.To)
		}
		l = append(l, s)
	}
	return strings.Join(l, "; ")
}

// written writes numbers with spaces between them.
func written(l []int) string {
	var words []string
	for _, n := range l {
		words = append(words, strconv.Itoa(n))
	}
	return strings.Join(words, " ")
}

func number(s string) int {
	n, err := strconv.Atoi(s)
	if err != nil {
		panic(err)
	}
	return n
}

// The types of the hierarchy of most tests: c and d are below c&d, which is below a and b.
const (
	top = iota
	a
	b
	ab
	c
	d
)

// diamond returns this hierarchy, with 64 features.
func diamond(t *testing.T) api.Hierarchy {
	t.Helper()
	l := []api.TypeDecl{{Name: "top"}, {Name: "a", Supers: []string{"top"}}, {Name: "b", Supers: []string{"top"}},
		{Name: "c", Supers: []string{"a", "b"}}, {Name: "d", Supers: []string{"a", "b"}}}
	for i := range api.MaxFeats {
		l[0].Feats = append(l[0].Feats, api.FeatDecl{Feat: "F" + strconv.Itoa(i), Value: "top"})
	}
	h, e := hier.Compile(l)
	if e != api.OK || len(h.Types) != 6 || hier.Type(h, "c&d") != ab || hier.Type(h, "c") != c || hier.Type(h, "b") != b {
		t.Fatal(h, e)
	}
	return h
}

// fit is two feature structures, and the morphism from the first one to the second one, which is "none" if there is none.
type fit struct{ f, g, want string }

// fits are pairs of feature structures for this hierarchy.
var fits = []fit{
	// The examples of the chapter, with a as x.
	{"0 0:1 1:2; 0; 0", "0 0:1 1:1; 1", "0 1 1"},
	{"0 0:1 1:1; 1", "0 0:1 1:2; 0; 0", "none"},
	{"0 0:1; 0 0:2; 0", "0 0:0", "0 0 0"},
	{"0 0:0", "0 0:1; 0 0:2; 0", "none"},
	// Types: equal ones, subtypes, supertypes, and types that have a common subtype or supertype.
	{"0", "0", "0"}, {"0", "5", "0"}, {"1", "4", "0"}, {"3", "4", "0"}, {"2", "3", "0"},
	{"4", "3", "none"}, {"4", "1", "none"}, {"1", "0", "none"},
	{"1", "2", "none"}, {"2", "1", "none"}, {"4", "5", "none"}, {"5", "4", "none"},
	// The type of the last node, and of each node of several that get the same one.
	{"0 0:1; 0 0:2; 1", "0 0:1; 0 0:2; 4", "0 1 2"},
	{"0 0:1; 0 0:2; 4", "0 0:1; 0 0:2; 1", "none"},
	{"0 0:1 1:2; 1; 2", "0 0:1 1:1; 3", "0 1 1"},
	{"0 0:1 1:2; 1; 2", "0 0:1 1:1; 1", "none"},
	{"0 0:1 1:2; 2; 1", "0 0:1 1:1; 1", "none"},
	// The types of the roots do not matter less than those of other nodes.
	{"1 0:1; 0", "0 0:1; 4", "none"},
	{"0 0:1; 4", "1 0:1; 0", "none"},
	// Arcs: the first structure may have fewer of them, at each node.
	{"0", "3 0:1; 4", "0"},
	{"3 0:1; 4", "3", "none"},
	{"0 1:1; 0", "0 0:1 1:2 2:3; 4; 5; 3", "0 2"},
	{"0 0:1 2:2; 0; 0", "0 0:1 1:2 2:3; 4; 5; 3", "0 1 3"},
	{"0 1:1; 0", "0 0:1 2:2; 0; 0", "none"},
	{"0 3:1; 0", "0 0:1 2:2; 0; 0", "none"},
	{"0 0:1; 0", "0 1:1 2:2; 0; 0", "none"},
	{"0 0:1; 0", "0 1:1; 0", "none"},
	{"0 0:1 1:2; 0; 0", "0 0:1; 0", "none"},
	{"0 0:1; 0 63:2; 0", "0 0:1; 0 62:2 63:3; 0; 0", "0 1 3"},
	{"0 0:1; 0 62:2; 0", "0 0:1; 0 63:2; 0", "none"},
	// Sharing: two paths that lead to one node do so in the second structure.
	{"0 0:1 1:1; 0", "0 0:1 1:2; 0; 0", "none"},
	{"0 0:1 1:1; 0", "0 0:1 1:1; 4", "0 1"},
	{"0 0:1 1:2; 0 2:2; 0", "0 0:1 1:3; 0 2:2; 0; 0", "none"},
	{"0 0:1 1:3; 0 2:2; 0; 0", "0 0:1 1:2; 0 2:2; 0", "0 1 2 2"},
	{"0 0:1 1:2 2:2; 0; 0", "0 0:1 1:1 2:1; 0", "0 1 1"},
	{"0 0:1 1:1 2:2; 0; 0", "0 0:1 1:2 2:2; 0; 0", "none"},
	// A node that two arcs share gets its value from the first one, also if the traversal of the other one is not the same.
	{"0 0:1 1:3; 1 0:2; 0; 0", "0 0:1 1:2; 1 0:2; 0", "0 1 2 2"},
	{"0 0:1 1:2; 1 0:2; 0", "0 0:1 1:3; 1 0:2; 0; 0", "none"},
	// The nodes may be in another order.
	{"0 0:1 2:2; 0; 0", "0 0:1 2:3; 0 1:2; 0; 0", "0 1 3"},
	{"0 1:1; 0 0:2; 0", "0 0:1 1:2; 0; 0 0:1", "0 2 1"},
	// Cycles: the image of a cycle is one, whose length divides its length.
	{"0 0:0", "4 0:0", "0"},
	{"4 0:0", "0 0:0", "none"},
	{"0 0:1; 0 0:0", "0 0:0", "0 0"},
	{"0 0:0", "0 0:1; 0 0:0", "none"},
	{"0 0:1; 1 0:2; 0 0:3; 2 0:0", "0 0:1; 3 0:0", "0 1 0 1"},
	{"0 0:1; 1 0:2; 0 0:3; 4 0:0", "0 0:1; 3 0:0", "none"},
	{"0 0:1; 0 0:2; 0 0:0", "0 0:1; 0 0:0", "none"},
	{"0 0:1; 0 0:0", "0 0:1; 0 0:2; 0 0:0", "none"},
	{"0 0:1; 0 0:1", "0 0:0", "0 0"},
	{"0 0:1; 0 0:1", "0 0:1; 0 0:0", "none"},
	{"0 0:1; 0 0:0", "0 0:1; 0 0:1", "none"},
	{"0 0:1 1:0; 0 0:0", "0 0:0 1:0", "0 0"},
	{"0 0:0 1:1; 4", "4 0:0 1:0", "0 0"},
	{"0 0:0 1:1; 5", "4 0:0 1:0", "none"},
	{"0 0:1; 0 1:0", "0 0:1; 0 1:2; 0 0:1", "none"},
	{"0 0:1; 0 1:2; 0 0:1", "0 0:1; 0 1:0", "0 1 0"},
}

// P9.1, P9.2
func TestMap(t *testing.T) {
	h := diamond(t)
	for _, x := range fits {
		f, g := valid(t, h, x.f), valid(t, h, x.g)
		found := x.want != "none"
		m, ok := subsume.Map(h, f, g)
		if ok != found || found && written(m) != x.want || !found && m != nil {
			t.Errorf("Map of %s and %s: %v, %v, not %s", x.f, x.g, m, ok, x.want)
		}
		if got := subsume.Subsumes(h, f, g); got != found {
			t.Errorf("Subsumes of %s and %s: %v", x.f, x.g, got)
		}
		// P9.5
		if m, ok := subsume.Map(h, f, f); !ok || len(m) != len(f.Nodes) || !slices.IsSorted(m) || m[len(m)-1] != len(m)-1 {
			t.Errorf("Map of %s and itself: %v, %v", x.f, m, ok)
		}
	}
}

// P9.3, P9.6
func TestCompare(t *testing.T) {
	h := diamond(t)
	for _, x := range []struct {
		f, g string
		want int
	}{
		{"0 0:1 1:2; 0; 0", "0 0:1 1:1; 1", api.RelGeneral},
		{"0 0:1; 0 0:2; 0", "0 0:0", api.RelGeneral},
		{"0", "0", api.RelEqual},
		{"3 0:1 1:0; 4 0:0", "3 0:1 1:0; 4 0:0", api.RelEqual},
		{"0", "3", api.RelGeneral},
		{"2", "4", api.RelGeneral},
		{"1", "2", api.RelNone},
		{"4", "5", api.RelNone},
		{"0 0:1; 0", "0 1:1; 0", api.RelNone},
		{"0 0:1; 0", "0 0:1 1:2; 0; 0", api.RelGeneral},
		// More general in one thing and more specific in another one.
		{"1 0:1; 0", "0 0:1; 1", api.RelNone},
		{"1", "0 0:1; 0", api.RelNone},
		{"0 0:1 1:1; 0", "0 0:1 1:2; 0; 4", api.RelNone},
		{"0 0:1 1:1 2:2; 0; 0", "0 0:1 1:2 2:2; 0; 0", api.RelNone},
		{"0 0:1 1:2; 4; 0", "0 0:1 1:2; 0; 4", api.RelNone},
		// Cycles.
		{"0 0:0", "0 0:0", api.RelEqual},
		{"0 0:1; 0 0:0", "0 0:0", api.RelGeneral},
		{"0 0:1; 0 0:1", "0 0:0", api.RelGeneral},
		{"0 0:1; 0 0:1", "0 0:1; 0 0:0", api.RelNone},
		{"0 0:1; 0 0:2; 0 0:0", "0 0:1; 0 0:0", api.RelNone},
		{"0 0:1; 0 0:2; 0 0:3; 0 0:0", "0 0:1; 0 0:0", api.RelGeneral},
	} {
		back := x.want
		switch x.want {
		case api.RelGeneral:
			back = api.RelSpecific
		case api.RelSpecific:
			back = api.RelGeneral
		}
		f, g := valid(t, h, x.f), valid(t, h, x.g)
		if got := subsume.Compare(h, f, g); got != x.want {
			t.Errorf("Compare of %s and %s: %d, not %d", x.f, x.g, got, x.want)
		}
		if got := subsume.Compare(h, g, f); got != back {
			t.Errorf("Compare of %s and %s: %d, not %d", x.g, x.f, got, back)
		}
	}
	// R4
	if got := subsume.Compare(h, graph.Atom(4), api.FS{Nodes: []api.Node{{Type: 4, Arcs: []api.Arc{}}}}); got != api.RelEqual {
		t.Errorf("Compare with an empty list of arcs: %d", got)
	}
}

// P9.4
func TestMaximal(t *testing.T) {
	h := diamond(t)
	const loose, tied = "0 0:1 1:2; 0; 0", "0 0:1 1:1; 1"
	for _, x := range []struct {
		l    []string
		want string
	}{
		{nil, ""},
		{[]string{"4"}, "0"},
		// The example of the chapter.
		{[]string{tied, loose, loose}, "1"},
		{[]string{loose, tied, loose, tied}, "0"},
		{[]string{tied, tied, loose}, "2"},
		// Of elements that are equal only the first one.
		{[]string{"4", "4", "4"}, "0"},
		{[]string{"4", "5", "4", "5", "4"}, "0 1"},
		// None is more general than another one.
		{[]string{"4", "5"}, "0 1"},
		{[]string{"5", "4"}, "0 1"},
		{[]string{"4", "0 0:1; 0", "0 1:1; 0", "0 2:0"}, "0 1 2 3"},
		// Chains, ascending, descending and mixed.
		{[]string{"0", "1", "3", "4"}, "0"},
		{[]string{"4", "3", "1", "0"}, "3"},
		{[]string{"3", "4", "0", "1"}, "2"},
		{[]string{"3", "0", "4", "0"}, "1"},
		// What follows may be more general than several elements, and than only some of them.
		{[]string{"4", "5", "3"}, "2"},
		{[]string{"4", "0 0:0", "5", "3"}, "1 3"},
		{[]string{"4", "0 0:0", "5", "3", "0 0:1; 0"}, "3 4"},
		{[]string{"1", "4", "2", "3", "5"}, "0 2"},
		{[]string{"5", "4", "2", "3", "1"}, "2 4"},
		{[]string{"5", "0 0:0", "4", "1", "2", "0 0:0", "0 0:1; 0 0:0", "0 0:1; 0 0:2; 0 0:0"}, "3 4 6 7"},
		// An element is left out for one that is left out itself.
		{[]string{"3", "4", "1"}, "2"},
		{[]string{"3", "3", "1", "3"}, "2"},
		{[]string{"4", "3", "4", "1", "4", "0", "4"}, "5"},
	} {
		var l []api.FS
		for _, s := range x.l {
			l = append(l, valid(t, h, s))
		}
		if got := written(subsume.Maximal(h, l)); got != x.want {
			t.Errorf("Maximal of %s: %s, not %s", strings.Join(x.l, " | "), got, x.want)
		}
	}
	if got := subsume.Maximal(h, []api.FS{}); len(got) != 0 {
		t.Errorf("Maximal of an empty list: %v", got)
	}
}

// P9.1, P9.2: a hierarchy with one type.
func TestOneType(t *testing.T) {
	h, e := hier.Compile([]api.TypeDecl{{Name: "t", Feats: []api.FeatDecl{{Feat: "F", Value: "t"}}}})
	if e != api.OK {
		t.Fatal(e)
	}
	if got := subsume.Compare(h, fs("0 0:1; 0 0:0"), fs("0 0:0")); got != api.RelGeneral {
		t.Errorf("Compare: %d", got)
	}
	if m, ok := subsume.Map(h, fs("0"), fs("0")); !ok || written(m) != "0" {
		t.Errorf("Map: %v, %v", m, ok)
	}
}

// ring returns a structure of n nodes, each of which leads to the next one with the feature 0, and the last one to the given one.
func ring(n, back int) api.FS {
	f := api.FS{Nodes: make([]api.Node, n)}
	for i := range n {
		f.Nodes[i].Arcs = []api.Arc{{Feat: 0, To: i + 1}}
	}
	f.Nodes[n-1].Arcs[0].To = back
	return f
}

// R1, R2: structures may be deeper and larger than what graph.Check accepts.
func TestDeep(t *testing.T) {
	h := diamond(t)
	const n = 1 << 18
	straight := path.Under(make([]int, n), graph.Atom(top))
	other := path.Under(make([]int, n), graph.Atom(c))
	round := ring(n, 0)
	for i, x := range []struct {
		f, g api.FS
		want int
	}{
		{straight, straight, api.RelEqual},
		{straight, other, api.RelGeneral},
		{straight, round, api.RelGeneral},
		{other, round, api.RelNone},
		{round, ring(n/2, 0), api.RelGeneral},
		{round, ring(n/2+1, 0), api.RelNone},
		{round, ring(n, 1), api.RelNone},
		{ring(n, 1), ring(n-1, 0), api.RelGeneral},
	} {
		if got := subsume.Compare(h, x.f, x.g); got != x.want {
			t.Errorf("case %d: %d", i, got)
		}
	}
	m, ok := subsume.Map(h, straight, ring(3, 1))
	if !ok || len(m) != n+1 || m[0] != 0 || m[n] != 2-n%2 {
		t.Errorf("Map of a deep structure: %d nodes, %v", len(m), ok)
	}
	if got := subsume.Maximal(h, []api.FS{other, round, straight, straight}); written(got) != "2" {
		t.Errorf("Maximal of deep structures: %v", got)
	}
}

// P9.1, P9.2: each node is visited once, whatever the number of paths to it is; it may have an arc for each feature.
func TestManyPaths(t *testing.T) {
	h := diamond(t)
	const n = 2000
	f := api.FS{Nodes: make([]api.Node, n+1)}
	for i := range n {
		for feat := range api.MaxFeats {
			f.Nodes[i].Arcs = append(f.Nodes[i].Arcs, api.Arc{Feat: feat, To: i + 1})
		}
	}
	if m, ok := subsume.Map(h, f, f); !ok || len(m) != n+1 || m[n] != n {
		t.Errorf("Map of a structure with many paths: %v", ok)
	}
	var g api.FS
	for i, x := range f.Nodes {
		g.Nodes = append(g.Nodes, api.Node{Type: x.Type, Arcs: slices.Clone(x.Arcs)})
		if i == n {
			g.Nodes[i].Type = d
		}
	}
	if got := subsume.Compare(h, f, g); got != api.RelGeneral {
		t.Errorf("Compare with another type at the end: %d", got)
	}
	g.Nodes[n-1].Arcs[api.MaxFeats-1].To = n + 1
	g.Nodes = append(g.Nodes, api.Node{Type: d})
	if got := subsume.Compare(h, f, g); got != api.RelNone {
		t.Errorf("Compare with another node at the end: %d", got)
	}
}

// R5: arguments are not changed, with the spare capacity of their lists, and what was returned is not changed later.
func TestImmutable(t *testing.T) {
	h := diamond(t)
	texts := []string{"4 0:1 1:1 2:0; 3", "0 0:1 1:2 2:3; 0; 1; 2", "1 0:1 1:2; 1; 1", "0 0:1 1:2 2:3; 0; 1; 2"}
	var l []api.FS
	for _, s := range append(texts, "0") {
		f := fs(s + "; 9 9:9")
		f.Nodes = f.Nodes[:len(f.Nodes)-1]
		for i := range f.Nodes {
			arcs := append(f.Nodes[i].Arcs, api.Arc{Feat: 77, To: 77})
			f.Nodes[i].Arcs = arcs[:len(arcs)-1]
		}
		l = append(l, f)
	}
	l = l[:len(texts)]
	check := func(what string) {
		t.Helper()
		if show(l[:5][4]) != "0" {
			t.Fatalf("the spare capacity of the list after %s", what)
		}
		for i, f := range l {
			if got := show(api.FS{Nodes: f.Nodes[:len(f.Nodes)+1]}); got != texts[i]+"; 9 9:9" {
				t.Fatalf("the argument after %s: %s", what, got)
			}
			for _, n := range f.Nodes {
				if n.Arcs[:len(n.Arcs)+1][len(n.Arcs)] != (api.Arc{Feat: 77, To: 77}) {
					t.Fatalf("the spare capacity of the arcs after %s", what)
				}
			}
		}
	}
	most := subsume.Maximal(h, l)
	check("Maximal")
	m, ok := subsume.Map(h, l[1], l[0])
	subsume.Compare(h, l[0], l[1])
	subsume.Map(h, l[0], l[1])
	check("Map and Compare")
	if written(most) != "1 2" || !ok || written(m) != "0 1 1 0" {
		t.Fatalf("%v and %v, %v", most, m, ok)
	}
	most[0], m[0] = 9, 9
	check("changes of the results")
	again, _ := subsume.Map(h, l[1], l[0])
	if got := subsume.Maximal(h, l); written(got) != "1 2" || written(again) != "0 1 1 0" || m[0] != 9 || most[0] != 9 {
		t.Errorf("the results of the same calls: %v and %v", got, again)
	}
}
