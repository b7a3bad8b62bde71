package unify_test

import (
	"slices"
	"strconv"
	"strings"
	"testing"

	"grammarlab/api"
	"grammarlab/graph"
	"grammarlab/hier"
	"grammarlab/path"
	"grammarlab/subsume"
	"grammarlab/unify"
)

// fs reads a graph: nodes with semicolons between them, each a type and arcs, each a feature and a node with a colon between them.
func fs(s string) api.FS {
	var f api.FS
	for _, part := range strings.Split(s, ";") {
		words := strings.Fields(part)
		n := api.Node{Type: number(words[0])}
		for _, w := range words[1:] {
			feat, to, _ := strings.Cut(w, ":")
			n.Arcs = append(n.Arcs, api.Arc{Feat: number(feat), To: number(to)})
		}
		f.Nodes = append(f.Nodes, n)
	}
	return f
}

// valid reads a feature structure that is valid for h.
func valid(t *testing.T, h api.Hierarchy, s string) api.FS {
	t.Helper()
	f := fs(s)
	if e := graph.Check(h, f); e != api.OK {
		t.Fatalf("%s: %v", s, e)
	}
	return f
}

// show writes a graph as fs reads it.
func show(f api.FS) string {
	var l []string
	for _, n := range f.Nodes {
		s := strconv.Itoa(n.Type)
		for _, a := range n.Arcs {
			s += " " + strconv.Itoa(a.Feat) + ":" + strconv.Itoa(a.To)
		}
		l = append(l, s)
	}
	return strings.Join(l, "; ")
}

func number(s string) int {
	n, err := strconv.Atoi(s)
	if err != nil {
		panic(err)
	}
	return n
}

// The types of the hierarchy of most tests: c and d are below c&d, which is below a and b.
const (
	top = iota
	a
	b
	ab
	c
	d
)

// diamond returns this hierarchy, with 64 features.
func diamond(t *testing.T) api.Hierarchy {
	t.Helper()
	l := []api.TypeDecl{{Name: "top"}, {Name: "a", Supers: []string{"top"}}, {Name: "b", Supers: []string{"top"}},
		{Name: "c", Supers: []string{"a", "b"}}, {Name: "d", Supers: []string{"a", "b"}}}
	for i := range api.MaxFeats {
		l[0].Feats = append(l[0].Feats, api.FeatDecl{Feat: "F" + strconv.Itoa(i), Value: "top"})
	}
	h, e := hier.Compile(l)
	if e != api.OK || len(h.Types) != 6 || hier.Type(h, "c&d") != ab || hier.Type(h, "c") != c || hier.Type(h, "b") != b {
		t.Fatal(h, e)
	}
	return h
}

// fails stands for the result of a unification that fails.
const fails = "-"

// result writes the result of a unification, and reports a failure that has a structure.
func result(t *testing.T, f api.FS, ok bool) string {
	t.Helper()
	if ok {
		return show(f)
	}
	if f.Nodes != nil {
		t.Errorf("a failure with the structure %s", show(f))
	}
	return fails
}

// P11.1: the first two examples of the chapter.
func TestExamples(t *testing.T) {
	h, e := hier.Compile([]api.TypeDecl{{Name: "top", Feats: []api.FeatDecl{{Feat: "F", Value: "top"}, {Feat: "G", Value: "top"}}},
		{Name: "x", Supers: []string{"top"}}, {Name: "y", Supers: []string{"top"}}})
	if e != api.OK {
		t.Fatal(e)
	}
	for _, x := range []struct{ f, g, want string }{
		{"0 0:1 1:2; 1; 0", "0 0:1 1:1; 0", "0 0:1 1:1; 1"},
		{"0 0:1 1:2; 1; 2", "0 0:1 1:1; 0", fails},
		{"0 0:1; 0 0:2; 1", "0 0:0", "1 0:0"},
	} {
		f, ok := unify.Unify(h, valid(t, h, x.f), valid(t, h, x.g))
		if got := result(t, f, ok); got != x.want {
			t.Errorf("Unify of %s and %s: %s, not %s", x.f, x.g, got, x.want)
		}
	}
}

// P11.1, P11.6
func TestUnify(t *testing.T) {
	h := diamond(t)
	for _, x := range []struct{ f, g, want string }{
		// Types, at the root and below it.
		{"0", "0", "0"}, {"4", "4", "4"}, {"0", "5", "5"}, {"1", "2", "3"}, {"1", "4", "4"}, {"3", "5", "5"}, {"4", "5", fails},
		{"1 0:1; 1", "2 0:1; 2", "3 0:1; 3"},
		{"1 0:1; 4", "2 0:1; 5", fails},
		{"4 0:1; 1", "5 0:1; 1", fails},
		{"1 0:1; 1 0:2; 1 0:3; 4", "2 0:1; 4 0:2; 5 0:3; 2", "3 0:1; 4 0:2; 5 0:3; 4"},
		{"1 0:1; 1 0:2; 1 0:3; 4", "2 0:1; 4 0:2; 5 0:3; 5", fails},
		// Features of one of the two, of both, and of neither; the nodes are numbered anew.
		{"1", "1 1:1; 1", "1 1:1; 1"},
		{"1 0:1; 4", "1 1:1; 5", "1 0:1 1:2; 4; 5"},
		{"1 1:1; 4", "1 0:1; 5", "1 0:1 1:2; 5; 4"},
		{"0 1:1 3:2 5:3; 1; 2; 4", "0 0:1 3:2 4:3 6:4; 4; 4; 5; 5", "0 0:1 1:2 3:3 4:4 5:5 6:6; 4; 1; 4; 5; 4; 5"},
		{"0 0:1 1:2 2:3; 1; 1; 1", "0 3:1 4:2 5:3; 2; 2; 2", "0 0:1 1:2 2:3 3:4 4:5 5:6; 1; 1; 1; 2; 2; 2"},
		{"0 62:1; 1", "0 0:1 63:2; 2; 4", "0 0:1 62:2 63:3; 2; 1; 4"},
		{"0 0:1 1:2; 1; 1 0:3; 2", "0 0:1; 2 1:2; 4", "0 0:1 1:3; 3 1:2; 4; 1 0:4; 2"},
		// Paths lead to one node if they do in one of the two.
		{"0 0:1 1:1; 1", "0 0:1 1:2; 2; 4", "0 0:1 1:1; 4"},
		{"0 0:1 1:1; 1", "0 0:1 1:2; 4; 5", fails},
		{"0 0:1 1:1; 4", "0 0:1 1:2; 5; 0", fails},
		{"0 0:1 1:1 2:2; 1; 1", "0 0:1 1:2 2:2; 2; 2", "0 0:1 1:1 2:1; 3"},
		{"0 0:1 1:1 2:2; 4; 1", "0 0:1 1:2 2:2; 2; 5", fails},
		{"0 0:1 1:1 2:2 3:2; 1; 2", "0 0:1 1:2 2:2 3:3; 0; 0; 0", "0 0:1 1:1 2:1 3:1; 3"},
		// Nodes of one of the two become equivalent, and with them their values.
		{"0 0:1 1:1; 0", "0 0:1 1:3; 1 2:2; 4; 2 3:4; 5", "0 0:1 1:1; 3 2:2 3:3; 4; 5"},
		{"0 0:1 1:1; 0", "0 0:1 1:3; 1 2:2; 1; 2 2:4; 2", "0 0:1 1:1; 3 2:2; 3"},
		{"0 0:1 1:1; 0", "0 0:1 1:3; 1 2:2; 4; 2 2:4; 5", fails},
		{"0 0:1 1:1; 0", "0 0:1 1:4; 0 2:2; 0 2:3; 1; 0 2:5; 0 2:6; 2", "0 0:1 1:1; 0 2:2; 0 2:3; 3"},
		{"0 0:1 1:1; 0", "0 0:1 1:4; 0 2:2; 0 2:3; 4; 0 2:5; 0 2:6; 5", fails},
		// The values of the one structure are tied by a node of the other one and by its own arcs.
		{"0 0:1 1:1 2:2; 0 3:2; 4", "0 0:1 1:2 2:4; 0; 0 3:3; 1; 2", "0 0:1 1:1 2:2; 0 3:2; 4"},
		{"0 0:1 1:1 2:2; 0 3:2; 4", "0 0:1 1:2 2:4; 0; 0 3:3; 5; 2", fails},
		// Cycles, which unify to one whose length divides both lengths.
		{"1 0:0", "2 0:0", "3 0:0"},
		{"4 0:0", "5 0:0", fails},
		{"1 0:1; 2 0:0", "0 0:0", "3 0:0"},
		{"4 0:1; 5 0:0", "0 0:0", fails},
		{"4 0:1; 5 0:0", "0 0:1; 0 0:0", "4 0:1; 5 0:0"},
		{"4 0:1; 5 0:0", "0 0:1; 0 0:2; 0 0:0", fails},
		{"1 0:1; 1 0:0", "2 0:1; 2 0:2; 2 0:0", "3 0:0"},
		{"4 0:1; 5 0:2; 4 0:3; 5 0:0", "0 0:1; 0 0:2; 0 0:3; 0 0:4; 0 0:5; 0 0:0", "4 0:1; 5 0:0"},
		{"0 0:1; 4 0:1", "0 0:1; 2 0:2; 1", "0 0:1; 4 0:1"},
		{"0 0:1; 4 0:1", "0 0:1; 2 0:2; 5", fails},
		{"0 0:1; 1 0:0", "0 0:1; 0 0:2; 2 0:1", "2 0:1; 1 0:0"},
		{"0 0:1; 1 0:0", "0 0:1; 0 0:2; 2 0:0", "3 0:0"},
		{"0 0:0", "4 0:1 1:2; 1; 2 0:3; 1", "4 0:0 1:1; 2 0:2; 1"},
		{"0 0:0 1:0", "1 0:1 1:2; 2; 4 2:3; 5", "4 0:0 1:0 2:1; 5"},
		{"0 0:0 1:0", "1 0:1 1:2; 5; 4 2:3; 5", fails},
		// Cycles that neither of the two has.
		{"0 0:1 1:2; 0; 0 0:1", "0 0:1 1:1; 0", "0 0:1 1:1; 0 0:1"},
		{"0 0:1 1:1; 4", "0 0:1 1:2; 0; 0 2:1", "0 0:1 1:1; 4 2:1"},
		{"0 0:1 1:1; 4", "0 0:1 1:2; 0; 0 2:3; 5 2:1", "0 0:1 1:1; 4 2:2; 5 2:1"},
		{"0 0:1 1:1; 4", "0 0:1 1:2; 0 2:1; 0 2:3; 5", fails},
		{"0 0:1 1:1; 4", "0 0:1 1:2; 0 2:1; 0 2:3; 2", "0 0:1 1:1; 4 2:1"},
		{"0 0:1 1:1; 1", "0 0:1 1:2; 0; 0 2:3; 2 2:1", "0 0:1 1:1; 1 2:2; 2 2:1"},
	} {
		f, g := valid(t, h, x.f), valid(t, h, x.g)
		for range 2 {
			u, ok := unify.Unify(h, f, g)
			if got := result(t, u, ok); got != x.want {
				t.Errorf("Unify of %s and %s: %s, not %s", show(f), show(g), got, x.want)
			}
			if u, ok = unify.Unify(h, f, f); !ok || show(u) != show(f) {
				t.Errorf("Unify of %s and itself: %s, %v", show(f), show(u), ok)
			}
			if u, ok = unify.Unify(h, graph.Atom(top), f); !ok || show(u) != show(f) {
				t.Errorf("Unify of the most general structure and %s: %s, %v", show(f), show(u), ok)
			}
			f, g = g, f
		}
	}
}

// P11.1: the meets are those of the hierarchy, also where it adds types, at one node and where several nodes become one.
func TestMeets(t *testing.T) {
	h, e := hier.Compile(append(hier.Prelude(), api.TypeDecl{Name: "left", Supers: []string{"index", "rel"}}, api.TypeDecl{Name: "right", Supers: []string{"index", "rel"}}))
	if e != api.OK {
		t.Fatal(e)
	}
	for i := range h.Types {
		for k := range h.Types {
			m, ok := hier.Meet(h, i, k)
			f, is := unify.Unify(h, graph.Atom(i), graph.Atom(k))
			if is != ok || ok && !graph.Equal(f, graph.Atom(m)) {
				t.Errorf("Unify of %d and %d: %s, %v", i, k, show(f), is)
			}
			apart := api.FS{Nodes: []api.Node{{Type: k, Arcs: []api.Arc{{Feat: 0, To: 1}, {Feat: 1, To: 2}}}, {Type: i}, {Type: k}}}
			tied := api.FS{Nodes: []api.Node{{Type: i, Arcs: []api.Arc{{Feat: 0, To: 1}, {Feat: 1, To: 1}}}, {Type: 0}}}
			f, is = unify.Unify(h, apart, tied)
			want := api.FS{Nodes: []api.Node{{Type: m, Arcs: tied.Nodes[0].Arcs}, {Type: m}}}
			if is != ok || ok && !graph.Equal(f, want) {
				t.Errorf("Unify of %s and %s: %s, %v", show(apart), show(tied), show(f), is)
			}
		}
	}
	name := func(s string) api.FS { return graph.Atom(hier.Type(h, s)) }
	for _, x := range []struct{ f, g, want string }{
		{"cons", "list", "cons"}, {"cons", "null", ""}, {"index", "rel", "left&right"}, {"left&right", "right", "right"}, {"left", "right", ""}, {"top", "qeq", "qeq"},
	} {
		f, ok := unify.Unify(h, name(x.f), name(x.g))
		if ok != (x.want != "") || ok && !graph.Equal(f, name(x.want)) {
			t.Errorf("Unify of %s and %s: %s, %v", x.f, x.g, show(f), ok)
		}
	}
}

// P11.1: the types of three nodes of a class may have no common subtype though each two of them have one.
func TestThreeTypes(t *testing.T) {
	l := []api.TypeDecl{{Name: "top", Feats: []api.FeatDecl{{Feat: "F", Value: "top"}, {Feat: "G", Value: "top"}, {Feat: "H", Value: "top"}}}}
	for _, s := range []string{"a", "b", "c"} {
		l = append(l, api.TypeDecl{Name: s, Supers: []string{"top"}})
	}
	for _, s := range []string{"ab", "ac", "bc"} {
		l = append(l, api.TypeDecl{Name: s, Supers: []string{s[:1], s[1:]}})
	}
	h, e := hier.Compile(l)
	if e != api.OK {
		t.Fatal(e)
	}
	number := func(s string) int { return hier.Type(h, s) }
	of := func(first, second, third string) api.FS {
		f := fs("0 0:1 1:2 2:3; 0; 0; 0")
		for i, s := range []string{first, second, third} {
			f.Nodes[i+1].Type = number(s)
		}
		return f
	}
	for _, x := range []struct{ first, second, third, want string }{
		{"a", "b", "top", "ab"}, {"a", "top", "c", "ac"}, {"top", "b", "c", "bc"}, {"a", "b", "c", ""}, {"a", "ab", "b", "ab"}, {"ab", "ac", "a", ""},
	} {
		f, ok := unify.Unify(h, of(x.first, x.second, x.third), fs("0 0:1 1:1 2:1; 0"))
		if ok != (x.want != "") || ok && (len(f.Nodes) != 2 || f.Nodes[1].Type != number(x.want)) {
			t.Errorf("%v: %s, %v", x, show(f), ok)
		}
		f, ok = unify.All(h, []api.FS{graph.Atom(number(x.first)), graph.Atom(number(x.second)), graph.Atom(number(x.third))})
		if ok != (x.want != "") || ok && !graph.Equal(f, graph.Atom(number(x.want))) {
			t.Errorf("All of %v: %s, %v", x, show(f), ok)
		}
	}
}

// P11.2, P11.6
func TestAll(t *testing.T) {
	h := diamond(t)
	for _, x := range []struct {
		l    []string
		want string
	}{
		{nil, "0"},
		{[]string{"4"}, "4"},
		{[]string{"4 0:1 1:0; 5 1:1"}, "4 0:1 1:0; 5 1:1"},
		{[]string{"1", "2"}, "3"},
		{[]string{"1", "2", "4"}, "4"},
		{[]string{"1", "4", "2", "5"}, fails},
		{[]string{"4", "5", "0", "0"}, fails},
		{[]string{"4", "4", "4", "4"}, "4"},
		{[]string{"0 0:1; 1", "0 1:1; 1", "0 2:1; 1"}, "0 0:1 1:2 2:3; 1; 1; 1"},
		{[]string{"0 0:1 1:1; 1", "0 1:1 2:1; 2", "0 0:1 2:2; 0; 4"}, "0 0:1 1:1 2:1; 4"},
		{[]string{"0 0:1 1:1; 1", "0 1:1 2:1; 2", "0 0:1 2:2; 5; 4"}, fails},
		{[]string{"0 0:1 1:1; 1", "0 1:1 2:1; 2", "0 0:1 2:2; 5; 0", "0 0:1 1:2; 0; 4"}, fails},
		{[]string{"1 0:1; 1 0:0", "2 0:1; 2 0:2; 2 0:0", "4"}, "4 0:0"},
		{[]string{"0 0:1; 0 0:2; 0 0:3; 0 0:0", "0 0:1; 0 0:2; 0 0:3; 0 0:4; 0 0:5; 0 0:0", "4 0:1; 5"}, "4 0:1; 5 0:0"},
		{[]string{"0 0:1; 0 0:2; 0 0:3; 0 0:0", "0 0:1; 0 0:2; 0 0:3; 0 0:4; 0 0:5; 0 0:0", "4 0:1; 5", "0 0:1; 0 0:2; 0 0:3; 4"}, fails},
	} {
		var l []api.FS
		for _, s := range x.l {
			l = append(l, valid(t, h, s))
		}
		for range 2 {
			f, ok := unify.All(h, l)
			if got := result(t, f, ok); got != x.want {
				t.Errorf("All of %s: %s, not %s", strings.Join(x.l, " | "), got, x.want)
			}
			slices.Reverse(l)
		}
	}
	if f, ok := unify.All(h, []api.FS{}); !ok || show(f) != "0" {
		t.Errorf("All of no elements: %s, %v", show(f), ok)
	}
}

// P11.3, P11.8
func TestAt(t *testing.T) {
	h := diamond(t)
	for _, x := range []struct {
		f    string
		p    []int
		g    string
		want string
	}{
		{"1", nil, "2", "3"},
		{"1", []int{}, "2 0:1; 4", "3 0:1; 4"},
		{"4", nil, "5", fails},
		// Nodes that are missing have the type 0.
		{"4", []int{3}, "5", "4 3:1; 5"},
		{"4", []int{3, 3, 0}, "5", "4 3:1; 0 3:2; 0 0:3; 5"},
		{"4 3:1; 4", []int{3, 3, 0}, "5 0:1; 1", "4 3:1; 4 3:2; 0 0:3; 5 0:4; 1"},
		{"4 3:1; 4", []int{2, 3}, "5", "4 2:1 3:3; 0 3:2; 5; 4"},
		{"0", []int{1, 0}, "0", "0 1:1; 0 0:2; 0"},
		// Nodes that are there.
		{"0 0:1; 1", []int{0}, "2", "0 0:1; 3"},
		{"0 0:1; 4", []int{0}, "5", fails},
		{"0 0:1; 0 0:2; 4", []int{0}, "1 0:1; 2", "0 0:1; 1 0:2; 4"},
		{"0 0:1; 0 0:2; 4", []int{0}, "1 0:1; 5", fails},
		{"0 0:1 1:1; 1", []int{1}, "2 2:1; 5", "0 0:1 1:1; 3 2:2; 5"},
		{"0 0:1 1:2; 4; 5", []int{1}, "5 0:0", "0 0:1 1:2; 4; 5 0:2"},
		{"0 0:1 1:3; 0 0:2; 4; 0 0:2", []int{1, 0}, "1 1:1; 1", "0 0:1 1:4; 0 0:2; 4 1:3; 1; 0 0:2"},
		// A path through a cycle.
		{"1 0:0", []int{0, 0, 0}, "2 1:1; 4", "3 0:0 1:1; 4"},
		{"4 0:0", []int{0, 0, 0}, "5", fails},
		{"4 0:1; 5 0:0", []int{0, 0, 0}, "5", "4 0:1; 5 0:0"},
		{"4 0:1; 5 0:0", []int{0, 0}, "5", fails},
		{"1 0:1; 2 0:0", []int{0, 1}, "4 1:1; 5", "1 0:1; 2 0:0 1:2; 4 1:3; 5"},
	} {
		f, ok := unify.At(h, valid(t, h, x.f), x.p, valid(t, h, x.g))
		if got := result(t, f, ok); got != x.want {
			t.Errorf("At of %s, %v and %s: %s, not %s", x.f, x.p, x.g, got, x.want)
		}
	}
}

// P11.4: what Equate gives for the most general structure is the equation itself.
func TestEquation(t *testing.T) {
	h := diamond(t)
	for _, x := range []struct {
		p, q []int
		want string
	}{
		// The examples of the chapter.
		{[]int{0, 0}, []int{0}, "0 0:1; 0 0:1"},
		{[]int{0}, []int{1}, "0 0:1 1:1; 0"},
		{[]int{0}, nil, "0 0:0"},
		{[]int{3, 4}, []int{3, 4}, "0 3:1; 0 4:2; 0"},
		{nil, nil, "0"},
		{[]int{}, nil, "0"},
		{[]int{63}, []int{63}, "0 63:1; 0"},
		// Paths with a common beginning.
		{[]int{3, 4}, []int{3, 5}, "0 3:1; 0 4:2 5:2; 0"},
		{[]int{3, 4, 1}, []int{3, 5, 1}, "0 3:1; 0 4:2 5:4; 0 1:3; 0; 0 1:3"},
		{[]int{3, 4, 1}, []int{3, 5}, "0 3:1; 0 4:2 5:3; 0 1:3; 0"},
		// Paths of which one begins with the other one.
		{[]int{3, 4, 5}, []int{3}, "0 3:1; 0 4:2; 0 5:1"},
		{[]int{1, 2}, nil, "0 1:1; 0 2:0"},
		{[]int{0, 0, 0}, nil, "0 0:1; 0 0:2; 0 0:0"},
		{[]int{0, 0, 0, 0, 0}, []int{0, 0}, "0 0:1; 0 0:2; 0 0:3; 0 0:4; 0 0:2"},
		{[]int{0, 1, 0}, []int{0}, "0 0:1; 0 1:2; 0 0:1"},
		// Paths that end alike, and paths with the same features in another order.
		{[]int{1, 7}, []int{2, 7}, "0 1:1 2:3; 0 7:2; 0; 0 7:2"},
		{[]int{1, 2}, []int{2, 1}, "0 1:1 2:3; 0 2:2; 0; 0 1:2"},
		{[]int{2, 2, 1}, []int{2, 1, 2}, "0 2:1; 0 1:2 2:4; 0 2:3; 0; 0 1:3"},
	} {
		for range 2 {
			f, ok := unify.Equate(h, graph.Atom(top), x.p, x.q)
			if got := result(t, f, ok); got != x.want {
				t.Errorf("the equation of %v and %v: %s, not %s", x.p, x.q, got, x.want)
			}
			x.p, x.q = x.q, x.p
		}
	}
}

// P11.4, P11.9
func TestEquate(t *testing.T) {
	h := diamond(t)
	for _, x := range []struct {
		f    string
		p, q []int
		want string
	}{
		{"4 0:1; 5", nil, nil, "4 0:1; 5"},
		{"4 0:1; 5", []int{0}, []int{0}, "4 0:1; 5"},
		{"4 0:1; 5", []int{1}, []int{1}, "4 0:1 1:2; 5; 0"},
		{"4 0:1; 5", []int{0}, []int{1}, "4 0:1 1:1; 5"},
		{"0 0:1 1:2; 1; 2", []int{0}, []int{1}, "0 0:1 1:1; 3"},
		{"0 0:1 1:2; 4; 5", []int{0}, []int{1}, fails},
		{"0 0:1 1:1; 4", []int{0}, []int{1}, "0 0:1 1:1; 4"},
		{"0 0:1 1:3; 1 2:2; 1; 2 2:4; 2", []int{0}, []int{1}, "0 0:1 1:1; 3 2:2; 3"},
		{"0 0:1 1:3; 1 2:2; 4; 2 2:4; 5", []int{0}, []int{1}, fails},
		{"0 0:1 1:3; 1 2:2; 4; 2 3:4; 5", []int{0}, []int{1}, "0 0:1 1:1; 3 2:2 3:3; 4; 5"},
		{"0 0:1 1:2; 1; 2", []int{0, 0}, []int{1, 0}, "0 0:1 1:3; 1 0:2; 0; 2 0:2"},
		{"4 0:1 1:2; 1; 5", []int{0}, []int{1, 2}, "4 0:1 1:2; 1; 5 2:1"},
		// The value of a feature becomes the whole structure, or a part of it becomes a part of itself.
		{"1 0:1; 2", []int{0}, nil, "3 0:0"},
		{"1 0:1 1:3; 2 1:2; 4; 0", []int{0}, nil, "3 0:0 1:1; 4"},
		{"1 0:1 1:3; 2 1:2; 4; 5", nil, []int{0}, fails},
		{"4 0:1; 5", []int{0}, nil, fails},
		{"4", nil, []int{5}, "4 5:0"},
		{"4 0:1; 5 0:2; 4", []int{0, 0}, nil, "4 0:1; 5 0:0"},
		{"4 0:1; 5 0:2; 1", []int{0, 0, 0}, []int{0}, "4 0:1; 5 0:2; 1 0:1"},
		{"4 0:1; 5 0:2; 1 0:3; 2", []int{0, 0, 0}, []int{0}, "4 0:1; 5 0:2; 1 0:1"},
		// Paths through cycles.
		{"4 0:0", []int{0, 0, 1}, []int{1}, "4 0:0 1:1; 0"},
		{"1 0:1; 2 0:0", []int{0, 0, 0}, nil, "3 0:0"},
		{"4 0:1; 5 0:0", []int{0, 0, 0}, []int{0}, "4 0:1; 5 0:0"},
		{"4 0:1; 5 0:0", []int{0, 0}, []int{0}, fails},
	} {
		for range 2 {
			f, ok := unify.Equate(h, valid(t, h, x.f), x.p, x.q)
			if got := result(t, f, ok); got != x.want {
				t.Errorf("Equate of %s, %v and %v: %s, not %s", x.f, x.p, x.q, got, x.want)
			}
			x.p, x.q = x.q, x.p
		}
	}
}

// ring returns a structure of n nodes, each of which leads to the next one with the feature 0, and the last one to the given one.
func ring(n, back int) api.FS {
	f := api.FS{Nodes: make([]api.Node, n)}
	for i := range n {
		f.Nodes[i].Arcs = []api.Arc{{Feat: 0, To: i + 1}}
	}
	f.Nodes[n-1].Arcs[0].To = back
	return f
}

// P11.1, P11.3, R2: results may have more than MaxNodes nodes, and may be arguments.
func TestLarge(t *testing.T) {
	h := diamond(t)
	const n = api.MaxNodes - 1
	line := func(feat, last int) api.FS { return path.Under(slices.Repeat([]int{feat}, n), graph.Atom(last)) }
	long, ok := unify.Unify(h, line(0, c), line(1, d))
	if !ok || len(long.Nodes) != 2*n+1 || long.Nodes[n].Type != c || long.Nodes[2*n].Type != d || len(long.Nodes[0].Arcs) != 2 {
		t.Fatalf("two large structures: %d nodes", len(long.Nodes))
	}
	if e := graph.Check(h, long); e != api.ErrTooLong {
		t.Errorf("a result with more than MaxNodes nodes: %v", e)
	}
	for _, x := range []struct {
		with api.FS
		want int
	}{{line(0, ab), len(long.Nodes)}, {line(2, a), 3*n + 1}, {long, len(long.Nodes)}, {line(0, d), 0}, {line(1, c), 0}} {
		f, ok := unify.Unify(h, long, x.with)
		g, is := unify.Unify(h, x.with, long)
		if ok != (x.want > 0) || is != ok || len(f.Nodes) != x.want || !graph.Equal(f, g) || ok && !subsume.Subsumes(h, long, f) {
			t.Errorf("a result and another structure: %d and %d nodes, %v and %v, not %d", len(f.Nodes), len(g.Nodes), ok, is, x.want)
		}
	}
	if f, ok := unify.Unify(h, long, ring(1, 0)); !ok || len(f.Nodes) != n+1 || f.Nodes[0].Type != c {
		t.Errorf("a result and a cycle: %d nodes, %v", len(f.Nodes), ok)
	}
	if f, ok := unify.At(h, long, slices.Repeat([]int{0}, n), long); !ok || len(f.Nodes) != 4*n+1 {
		t.Errorf("a result in itself: %d nodes, %v", len(f.Nodes), ok)
	}
	for _, x := range []struct{ f, g, want int }{{211 * 6, 199 * 6, 6}, {4096, 4095, 1}, {4096, 2048, 2048}, {4000, 3000, 1000}} {
		if f, ok := unify.Unify(h, ring(x.f, 0), ring(x.g, 0)); !ok || !graph.Equal(f, ring(x.want, 0)) {
			t.Errorf("rings of %d and %d nodes: %d, %v", x.f, x.g, len(f.Nodes), ok)
		}
	}
	// Rings that begin after some nodes: all nodes from the first of these places on become one ring.
	if f, ok := unify.Unify(h, ring(100, 10), ring(75, 15)); !ok || !graph.Equal(f, ring(10+30, 10)) {
		t.Errorf("rings that do not begin at the root: %s, %v", show(f), ok)
	}
}

// R1, R2: structures may be deeper and larger than what graph.Check accepts.
func TestDeep(t *testing.T) {
	h := diamond(t)
	const n = 1 << 17
	p := make([]int, n)
	deep := func(last int) api.FS { return path.Under(p, graph.Atom(last)) }
	if f, ok := unify.Unify(h, deep(a), deep(b)); !ok || !graph.Equal(f, deep(ab)) {
		t.Errorf("two deep structures: %d nodes, %v", len(f.Nodes), ok)
	}
	if f, ok := unify.Unify(h, deep(c), deep(d)); ok || f.Nodes != nil {
		t.Errorf("deep structures that do not unify: %d nodes, %v", len(f.Nodes), ok)
	}
	for _, length := range []int{1, 2, 3, 1 << 10, n - 1} {
		want := ring(length, 0)
		want.Nodes[n%length].Type = c
		for _, l := range [][]api.FS{{ring(length, 0), deep(ab), deep(c)}, {deep(c), deep(ab), ring(length, 0)}} {
			f, ok := unify.All(h, l)
			if !ok || !graph.Equal(f, want) {
				t.Errorf("a ring of %d nodes and two deep structures: %d, %v", length, len(f.Nodes), ok)
			}
		}
	}
	if f, ok := unify.Unify(h, ring(n, 0), ring(n-1, 0)); !ok || !graph.Equal(f, ring(1, 0)) {
		t.Errorf("two large rings: %d nodes, %v", len(f.Nodes), ok)
	}
	if f, ok := unify.At(h, graph.Atom(top), p, graph.Atom(c)); !ok || !graph.Equal(f, deep(c)) {
		t.Errorf("At of a long path: %d nodes, %v", len(f.Nodes), ok)
	}
	if f, ok := unify.Equate(h, graph.Atom(top), p, nil); !ok || !graph.Equal(f, ring(n, 0)) {
		t.Errorf("the equation of a long path and the empty one: %d nodes, %v", len(f.Nodes), ok)
	}
	if f, ok := unify.Equate(h, deep(c), p, p[:n-7]); !ok || len(f.Nodes) != n || f.Nodes[n-7].Type != c {
		t.Errorf("the equation of two long paths: %d nodes, %v", len(f.Nodes), ok)
	}
	// Two branches without a common beginning.
	q := slices.Repeat([]int{1}, n)
	if f, ok := unify.Equate(h, deep(c), q, p); !ok || len(f.Nodes) != 2*n || !subsume.Subsumes(h, deep(c), f) {
		t.Errorf("the equation of two long branches: %d nodes, %v", len(f.Nodes), ok)
	}
}

// P11.1: nodes are made equivalent once, whatever the number of paths to them is; a node may have an arc for each feature.
func TestManyPaths(t *testing.T) {
	h := diamond(t)
	build := func(n, last int) api.FS {
		f := api.FS{Nodes: make([]api.Node, n+1)}
		for i := range n {
			for feat := range api.MaxFeats {
				f.Nodes[i].Arcs = append(f.Nodes[i].Arcs, api.Arc{Feat: feat, To: i + 1})
			}
		}
		f.Nodes[n].Type = last
		return f
	}
	if f, ok := unify.Unify(h, build(1000, a), build(1000, b)); !ok || !graph.Equal(f, build(1000, ab)) {
		t.Errorf("two structures with many paths: %d nodes, %v", len(f.Nodes), ok)
	}
	if _, ok := unify.Unify(h, build(1000, c), build(1000, d)); ok {
		t.Error("structures with many paths and two types that have no meet")
	}
	// The last arc of each node leads to the node after the next one, which makes all nodes but the root equivalent.
	const n = 1000
	skip := build(n, c)
	for i := range n - 1 {
		skip.Nodes[i].Arcs[api.MaxFeats-1].To = i + 2
	}
	f, ok := unify.Unify(h, skip, build(n, top))
	want := build(1, c)
	want.Nodes[1].Arcs = build(1, c).Nodes[0].Arcs
	if !ok || !graph.Equal(f, want) {
		t.Errorf("structures with different sharing: %d nodes, %v", len(f.Nodes), ok)
	}
	// Each feature of the root leads to a branch of its own, or all of them to the same one.
	wide, one := graph.Atom(top), graph.Atom(top)
	for feat := range api.MaxFeats {
		f, ok := unify.At(h, graph.Atom(top), []int{feat, 0, feat}, graph.Atom(ab))
		if !ok {
			t.Fatal("At")
		}
		wide, _ = unify.Unify(h, f, wide)
		f, _ = unify.Equate(h, graph.Atom(top), []int{feat}, []int{0})
		one, _ = unify.Unify(h, f, one)
	}
	f, ok = unify.Unify(h, wide, one)
	if len(wide.Nodes) != 1+3*api.MaxFeats || len(one.Nodes) != 2 || !ok || len(f.Nodes) != 3+api.MaxFeats {
		t.Errorf("%d and %d nodes: %d, %v", len(wide.Nodes), len(one.Nodes), len(f.Nodes), ok)
	}
}

// R5: arguments are not changed, with the spare capacity of their lists, and what was returned is not changed later.
func TestImmutable(t *testing.T) {
	h := diamond(t)
	texts := []string{"1 0:1 1:1 2:0; 1", "1 0:1 1:2; 2; 0", "0 0:1 1:2; 0 1:2; 2"}
	var l []api.FS
	for _, s := range append(texts, "0") {
		f := fs(s + "; 9 9:9")
		f.Nodes = f.Nodes[:len(f.Nodes)-1]
		for i := range f.Nodes {
			arcs := append(f.Nodes[i].Arcs, api.Arc{Feat: 77, To: 77})
			f.Nodes[i].Arcs = arcs[:len(arcs)-1]
		}
		l = append(l, f)
	}
	l = l[:len(texts)]
	paths := []int{2, 1, 0, 1, 77}
	p, q := paths[:2], paths[2:4]
	check := func(what string) {
		t.Helper()
		if show(l[:4][3]) != "0" || !slices.Equal(paths, []int{2, 1, 0, 1, 77}) {
			t.Fatalf("the list or the paths after %s", what)
		}
		for i, f := range l {
			if got := show(api.FS{Nodes: f.Nodes[:len(f.Nodes)+1]}); got != texts[i]+"; 9 9:9" {
				t.Fatalf("the argument after %s: %s", what, got)
			}
			for _, n := range f.Nodes {
				if n.Arcs[:len(n.Arcs)+1][len(n.Arcs)] != (api.Arc{Feat: 77, To: 77}) {
					t.Fatalf("the spare capacity of the arcs after %s", what)
				}
			}
		}
	}
	run := func() []api.FS {
		two, _ := unify.Unify(h, l[0], l[1])
		same, _ := unify.Unify(h, l[0], l[0])
		above, _ := unify.Unify(h, graph.Atom(top), l[0])
		all, _ := unify.All(h, l)
		one, _ := unify.All(h, l[:1])
		at, _ := unify.At(h, l[1], p, l[0])
		whole, _ := unify.At(h, l[0], nil, l[1])
		equal, _ := unify.Equate(h, l[2], p, q)
		alike, _ := unify.Equate(h, l[2], q, q)
		return []api.FS{two, same, above, all, one, at, whole, equal, alike}
	}
	want := []string{
		"1 0:1 1:1 2:0; 3", texts[0], texts[0], "1 0:1 1:1 2:0; 3 1:1", texts[0],
		"1 0:1 1:2 2:3; 2; 0; 0 1:4; 1 0:5 1:5 2:4; 1", "1 0:1 1:1 2:0; 3", "0 0:1 1:2 2:3; 0 1:2; 2; 0 1:2", texts[2],
	}
	first := run()
	check("all calls")
	for i, f := range first {
		if show(f) != want[i] {
			t.Errorf("the result %d: %s, not %s", i, show(f), want[i])
		}
	}
	second := run()
	for _, f := range first {
		f.Nodes[0].Type = 9
		f.Nodes[0].Arcs[1].To = 0
		f.Nodes[0].Arcs = append(f.Nodes[0].Arcs, api.Arc{Feat: 9, To: 0})
	}
	check("changes of the results")
	for i, f := range second {
		if show(f) != want[i] {
			t.Errorf("the result %d after changes of the same one: %s, not %s", i, show(f), want[i])
		}
	}
}
