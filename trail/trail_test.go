package trail_test

import (
	"slices"
	"strconv"
	"strings"
	"testing"

	"grammarlab/api"
	"grammarlab/graph"
	"grammarlab/hier"
	"grammarlab/path"
	"grammarlab/trail"
	"grammarlab/unify"
)

// fs reads a graph: nodes with semicolons between them, each a type and arcs, each a feature and a node with a colon between them.
func fs(s string) api.FS {
	var f api.FS
	for _, part := range strings.Split(s, ";") {
		words := strings.Fields(part)
		n := api.Node{Type: number(words[0])}
		for _, w := range words[1:] {
			feat, to, _ := strings.Cut(w, ":")
			n.Arcs = append(n.Arcs, api.Arc{Feat: number(feat), To: number(to)})
		}
		f.Nodes = append(f.Nodes, n)
	}
	return f
}

// valid reads a feature structure that is valid for h.
func valid(t *testing.T, h api.Hierarchy, s string) api.FS {
	t.Helper()
	f := fs(s)
	if e := graph.Check(h, f); e != api.OK {
		t.Fatalf("%s: %v", s, e)
	}
	return f
}

// show writes a graph as fs reads it.
func show(f api.FS) string {
	var l []string
	for _, n := range f.Nodes {
		s := strconv.Itoa(n.Type)
		for _, a := range n.Arcs {
			s += " " + strconv.Itoa(a.Feat) + ":" + strconv.Itoa(a.To)
		}
		l = append(l, s)
	}
	return strings.Join(l, "; ")
}

func number(s string) int {
	n, err := strconv.Atoi(s)
	if err != nil {
		panic(err)
	}
	return n
}

// The types of the hierarchy of most tests: c and d are below c&d, which is below a and b.
const (
	top = iota
	a
	b
	ab
	c
	d
)

// diamond returns this hierarchy, with 64 features.
func diamond(t *testing.T) api.Hierarchy {
	t.Helper()
	l := []api.TypeDecl{{Name: "top"}, {Name: "a", Supers: []string{"top"}}, {Name: "b", Supers: []string{"top"}},
		{Name: "c", Supers: []string{"a", "b"}}, {Name: "d", Supers: []string{"a", "b"}}}
	for i := range api.MaxFeats {
		l[0].Feats = append(l[0].Feats, api.FeatDecl{Feat: "F" + strconv.Itoa(i), Value: "top"})
	}
	h, e := hier.Compile(l)
	if e != api.OK || len(h.Types) != 6 || hier.Type(h, "c&d") != ab || hier.Type(h, "c") != c || hier.Type(h, "b") != b {
		t.Fatal(h, e)
	}
	return h
}

// loaded returns a heap with some structures, and the cells of their roots.
func loaded(t *testing.T, h api.Hierarchy, texts ...string) (*trail.Heap, []int) {
	t.Helper()
	x := trail.New(h)
	var roots []int
	for _, s := range texts {
		roots = append(roots, x.Load(valid(t, h, s)))
	}
	return x, roots
}

// readAll returns what Read returns for each cell.
func readAll(t *testing.T, x *trail.Heap) []string {
	t.Helper()
	var l []string
	for c := range x.Len() {
		f, ok := x.Read(c)
		if !ok {
			t.Fatalf("no cell %d of %d", c, x.Len())
		}
		l = append(l, show(f))
	}
	return l
}

// checkAll compares what Read returns for each cell.
func checkAll(t *testing.T, what string, x *trail.Heap, want ...string) {
	t.Helper()
	if got := readAll(t, x); !slices.Equal(got, want) {
		t.Errorf("%s: %s, not %s", what, strings.Join(got, " | "), strings.Join(want, " | "))
	}
}

// P12.1 to P12.4: the example of the chapter.
func TestExample(t *testing.T) {
	h, e := hier.Compile([]api.TypeDecl{{Name: "top", Feats: []api.FeatDecl{{Feat: "F", Value: "top"}}}, {Name: "x", Supers: []string{"top"}}, {Name: "y", Supers: []string{"top"}}})
	if e != api.OK {
		t.Fatal(e)
	}
	x, roots := loaded(t, h, "0 0:1; 1", "0 0:1; 0", "2")
	if !slices.Equal(roots, []int{0, 2, 4}) || x.Len() != 5 {
		t.Errorf("Load: %v, %d cells", roots, x.Len())
	}
	if !x.Unify(0, 2) {
		t.Error("Unify of 0 and 2")
	}
	if f, ok := x.Read(3); !ok || show(f) != "1" {
		t.Errorf("Read of 3: %s, %v", show(f), ok)
	}
	if x.Unify(3, 4) {
		t.Error("Unify of 3 and 4")
	}
	if f, ok := x.Read(4); !ok || show(f) != "2" {
		t.Errorf("Read of 4: %s, %v", show(f), ok)
	}
	if x.Unify(0, 5) {
		t.Error("Unify of 0 and 5")
	}
}

// P12.1
func TestNew(t *testing.T) {
	h := diamond(t)
	x, y := trail.New(h), trail.New(h)
	if x.Len() != 0 {
		t.Errorf("a new heap: %d cells", x.Len())
	}
	for _, c := range []int{-1, 0, 1} {
		if f, ok := x.Read(c); ok || f.Nodes != nil {
			t.Errorf("Read of %d in a new heap: %s, %v", c, show(f), ok)
		}
		if x.Unify(c, c) || x.Undo(c) {
			t.Errorf("Unify or Undo of %d in a new heap", c)
		}
	}
	// Heaps do not depend on each other.
	x.Load(fs("4 0:0"))
	x.Mark()
	if y.Len() != 0 || y.Undo(0) || y.Load(fs("1 0:1; 2")) != 0 || y.Len() != 2 || x.Len() != 1 {
		t.Errorf("two heaps: %d and %d cells", x.Len(), y.Len())
	}
	checkAll(t, "the first heap", x, "4 0:0")
	checkAll(t, "the second heap", y, "1 0:1; 2", "2")
}

// P12.2, P12.3, P12.8
func TestLoad(t *testing.T) {
	h := diamond(t)
	x := trail.New(h)
	var want []string
	for _, s := range []string{"0", "4 0:1 1:2; 5; 1 63:3; 2", "0 0:0", "1 0:1; 2 0:0 3:2; 3", "4 0:1 1:1; 5", "0"} {
		f, n := valid(t, h, s), x.Len()
		if c := x.Load(f); c != n || x.Len() != n+len(f.Nodes) {
			t.Errorf("Load of %s after %d cells: %d, %d cells", s, n, c, x.Len())
		}
		for k := range f.Nodes {
			want = append(want, show(graph.Sub(f, k)))
		}
	}
	for range 2 {
		checkAll(t, "structures that were loaded", x, want...)
	}
	for _, c := range []int{-1, -1 << 40, x.Len(), x.Len() + 1, 1 << 40} {
		if f, ok := x.Read(c); ok || f.Nodes != nil {
			t.Errorf("Read of %d: %s, %v", c, show(f), ok)
		}
	}
}

// P12.3, P12.4, P12.9: two structures, of which cells are unified; - stands for a Unify that fails, and changes nothing.
func TestUnify(t *testing.T) {
	h := diamond(t)
	for _, x := range []struct {
		f, g string
		a, b int
		want string
	}{
		// Types.
		{"1", "2", 0, 1, "3 | 3"},
		{"4", "5", 0, 1, "-"},
		{"4", "0", 0, 1, "4 | 4"},
		{"1 0:1; 4", "2 0:1; 2", 0, 2, "3 0:1; 4 | 4 | 3 0:1; 4 | 4"},
		{"1 0:1; 4", "2 0:1; 5", 0, 2, "-"},
		{"1 0:1 1:2; 1; 4", "2 0:1 1:2; 2; 5", 0, 3, "-"},
		// Features of both and of one of the two.
		{"1 0:1; 4", "1 1:1; 5", 0, 2, "1 0:1 1:2; 4; 5 | 4 | 1 0:1 1:2; 4; 5 | 5"},
		{"0 1:1 3:2; 1; 2", "0 0:1 3:2; 4; 1", 0, 3, "0 0:1 1:2 3:3; 4; 1; 3 | 1 | 3 | 0 0:1 1:2 3:3; 4; 1; 3 | 4 | 3"},
		// Cells below the root: what leads to them changes too.
		{"0 0:1 1:2; 1; 4", "0 0:1; 2", 1, 4, "0 0:1 1:2; 3; 4 | 3 | 4 | 0 0:1; 3 | 3"},
		{"0 0:1 1:2; 1; 4", "0 0:1; 2 2:0", 1, 4, "0 0:1 1:3; 3 2:2; 0 0:1; 4 | 3 2:1; 0 0:0 | 4 | 0 0:1; 3 2:0 | 3 2:1; 0 0:0"},
		{"0 0:1; 1", "0 1:1; 2", 1, 2, "0 0:1; 1 1:2; 2 | 1 1:1; 2 | 1 1:1; 2 | 2"},
		// Cells of one structure.
		{"0 0:1 1:2; 1; 2", "4", 1, 2, "0 0:1 1:1; 3 | 3 | 3 | 4"},
		{"0 0:1 1:2; 4; 5", "4", 1, 2, "-"},
		{"1 0:1 1:2; 2; 5", "4", 0, 1, "3 0:0 1:1; 5 | 3 0:0 1:1; 5 | 5 | 4"},
		{"0 0:1 1:3; 1 2:2; 1; 2 2:4; 2", "4", 1, 3, "0 0:1 1:1; 3 2:2; 3 | 3 2:1; 3 | 3 | 3 2:1; 3 | 3 | 4"},
		{"0 0:1 1:3; 1 2:2; 4; 2 2:4; 5", "4", 1, 3, "-"},
		// A structure and a part of itself.
		{"1 0:1; 2 0:2; 0", "4", 0, 1, "3 0:0 | 3 0:0 | 3 0:0 | 4"},
		{"1 0:1; 2 0:2; 0", "4", 0, 2, "1 0:1; 2 0:0 | 2 0:1; 1 0:0 | 1 0:1; 2 0:0 | 4"},
		{"1 0:1; 4 0:2; 5", "4", 0, 1, "-"},
		// Equivalent cells.
		{"4 0:1; 5", "4", 0, 0, "4 0:1; 5 | 5 | 4"},
		{"4 0:1; 5", "4", 1, 1, "4 0:1; 5 | 5 | 4"},
		// Cycles.
		{"1 0:0", "2 0:1; 0 0:0", 0, 1, "3 0:0 | 3 0:0 | 3 0:0"},
		{"1 0:0", "2 0:1; 0 0:0", 0, 2, "3 0:0 | 3 0:0 | 3 0:0"},
		{"4 0:0", "2 0:1; 5 0:0", 0, 1, "-"},
		{"4 0:1; 5 0:0", "0 0:1; 0 0:0", 0, 2, "4 0:1; 5 0:0 | 5 0:1; 4 0:0 | 4 0:1; 5 0:0 | 5 0:1; 4 0:0"},
		{"4 0:1; 5 0:0", "0 0:1; 0 0:0", 1, 2, "4 0:1; 5 0:0 | 5 0:1; 4 0:0 | 5 0:1; 4 0:0 | 4 0:1; 5 0:0"},
		{"4 0:1; 5 0:0", "0 0:1; 0 0:2; 0 0:0", 1, 3, "-"},
	} {
		for _, p := range [][2]int{{x.a, x.b}, {x.b, x.a}} {
			heap, _ := loaded(t, h, x.f, x.g)
			want := strings.Split(x.want, " | ")
			if x.want == "-" {
				want = readAll(t, heap)
			}
			for range 2 {
				if ok := heap.Unify(p[0], p[1]); ok != (x.want != "-") {
					t.Errorf("Unify of %v in %s and %s: %v", p, x.f, x.g, ok)
				}
				checkAll(t, "after Unify in "+x.f+" and "+x.g, heap, want...)
			}
		}
	}
}

// P12.4: a number that is not one of a cell.
func TestUnifyNoCell(t *testing.T) {
	x, _ := loaded(t, diamond(t), "1 0:1; 2", "4")
	for _, c := range []int{-1, -1 << 40, 3, 4, 1 << 40} {
		for k := range 3 {
			if x.Unify(c, k) || x.Unify(k, c) {
				t.Errorf("Unify of %d and %d", c, k)
			}
		}
		if x.Unify(c, c) {
			t.Errorf("Unify of %d and itself", c)
		}
	}
	checkAll(t, "after Unify of what are not cells", x, "1 0:1; 2", "2", "4")
}

// P12.4, P12.8, P12.9: several Unify, some of which fail.
func TestSeveral(t *testing.T) {
	h := diamond(t)
	x, roots := loaded(t, h, "0 0:1 1:2; 0; 0", "0 0:1; 1", "0 1:1; 2", "0 0:1 1:1; 0", "4", "5")
	steps := []struct {
		a, b int
		ok   bool
	}{
		{roots[0], roots[1], true}, {roots[0], roots[2], true}, {1, roots[4], true}, {2, roots[5], true},
		{roots[3], roots[0], false}, // ties the two values, whose types have no meet
		{roots[3] + 1, 2, true}, {roots[3] + 1, 1, false}, {roots[3], 1, true}, {1, 2, false},
	}
	for i, s := range steps {
		before := readAll(t, x)
		if ok := x.Unify(s.a, s.b); ok != s.ok {
			t.Fatalf("Unify of %d and %d: %v", s.a, s.b, ok)
		}
		if !s.ok {
			checkAll(t, "after the step "+strconv.Itoa(i), x, before...)
			continue
		}
		f, _ := x.Read(s.a)
		if g, _ := x.Read(s.b); !graph.Equal(f, g) {
			t.Errorf("after the step %d: %s and %s", i, show(f), show(g))
		}
	}
	value := "4 0:1 1:1; 5"
	checkAll(t, "after all steps", x, "0 0:1 1:2; 4 0:2 1:2; 5", value, "5", "0 0:1 1:2; 4 0:2 1:2; 5", value, "0 0:1 1:2; 4 0:2 1:2; 5", "5", value, "5", value, "5")
}

// P12.4: the types of three cells may have no common subtype though each two of them have one.
func TestThreeTypes(t *testing.T) {
	l := []api.TypeDecl{{Name: "top"}}
	for _, s := range []string{"a", "b", "c"} {
		l = append(l, api.TypeDecl{Name: s, Supers: []string{"top"}})
	}
	for _, s := range []string{"ab", "ac", "bc"} {
		l = append(l, api.TypeDecl{Name: s, Supers: []string{s[:1], s[1:]}})
	}
	h, e := hier.Compile(l)
	if e != api.OK {
		t.Fatal(e)
	}
	number := func(s string) int { return hier.Type(h, s) }
	atom := func(s string) string { return show(graph.Atom(number(s))) }
	x := trail.New(h)
	for _, s := range []string{"a", "b", "c", "bc"} {
		x.Load(graph.Atom(number(s)))
	}
	x.Mark()
	if !x.Unify(0, 1) || x.Unify(1, 2) || x.Unify(0, 2) || x.Unify(0, 3) || !x.Unify(2, 3) {
		t.Error("Unify of a and b first")
	}
	checkAll(t, "a and b", x, atom("ab"), atom("ab"), atom("bc"), atom("bc"))
	if !x.Undo(0) || !x.Unify(1, 2) || x.Unify(1, 0) || x.Unify(0, 2) || !x.Unify(1, 3) {
		t.Error("Unify of b and c first")
	}
	checkAll(t, "b and c", x, atom("a"), atom("bc"), atom("bc"), atom("bc"))
}

// P12.5, P12.6, P12.10
func TestMarks(t *testing.T) {
	h := diamond(t)
	x, _ := loaded(t, h, "0 0:1 1:2; 1; 2")
	undo := func(mark int, ok bool) {
		t.Helper()
		before := readAll(t, x)
		if got := x.Undo(mark); got != ok {
			t.Errorf("Undo(%d): %v", mark, got)
		}
		if !ok {
			checkAll(t, "after an Undo that fails", x, before...)
		}
	}
	mark := func(want int) {
		t.Helper()
		before := readAll(t, x)
		if m := x.Mark(); m != want {
			t.Errorf("Mark: %d, not %d", m, want)
		}
		checkAll(t, "after Mark", x, before...)
	}
	undo(0, false)
	mark(0)
	mark(1)
	undo(2, false)
	undo(-1, false)
	// The example of the chapter.
	undo(0, true)
	undo(1, false)
	mark(1)

	if !x.Unify(1, 2) || x.Load(valid(t, h, "0 1:1; 4")) != 3 {
		t.Error("Unify and Load after the mark 1")
	}
	mark(2)
	mark(3)
	if x.Load(valid(t, h, "5")) != 5 || !x.Unify(0, 3) || x.Unify(5, 1) || !x.Unify(5, 0) {
		t.Error("Load and Unify after the mark 3")
	}
	mark(4)
	all := []string{"5 0:1 1:1; 4", "4", "4", "5 0:1 1:1; 4", "4", "5 0:1 1:1; 4"}
	checkAll(t, "with all changes", x, all...)
	undo(5, false)
	undo(1<<40, false)
	undo(-1<<40, false)
	undo(4, true)
	checkAll(t, "after Undo(4)", x, all...)
	third := []string{"0 0:1 1:1; 3", "3", "3", "0 1:1; 4", "4"}
	undo(3, true)
	checkAll(t, "after Undo(3)", x, third...)
	undo(4, false)
	// The mark remains valid; what was taken back can be done otherwise.
	if x.Load(valid(t, h, "4 1:1; 1")) != 5 || !x.Unify(5, 0) || !x.Unify(6, 4) {
		t.Error("Load and Unify after Undo(3)")
	}
	checkAll(t, "with other changes", x, "4 0:1 1:1; 4", "4", "4", "0 1:1; 4", "4", "4 0:1 1:1; 4", "4")
	undo(3, true)
	checkAll(t, "after Undo(3) again", x, third...)
	undo(2, true)
	checkAll(t, "after Undo(2)", x, third...)
	undo(3, false)
	mark(3)
	undo(1, true)
	checkAll(t, "after Undo(1)", x, "0 0:1 1:2; 1; 2", "1", "2")
	if x.Load(valid(t, h, "4")) != 3 {
		t.Error("Load after Undo(1)")
	}
	undo(0, true)
	undo(0, true)
	checkAll(t, "after Undo(0)", x, "0 0:1 1:2; 1; 2", "1", "2")
	undo(1, false)
	mark(1)
	mark(2)
}

// P12.6, P12.10: what was done before the first mark remains, and cells that are added again are new ones.
func TestUndoKeeps(t *testing.T) {
	h := diamond(t)
	x, _ := loaded(t, h, "0 0:1; 1", "0 0:1; 2", "4 0:1; 4", "5")
	if !x.Unify(0, 2) || !x.Unify(1, 6) || x.Unify(4, 1) {
		t.Error("Unify before the mark")
	}
	want := []string{"0 0:1; 5", "5", "0 0:1; 5", "5", "4 0:1; 4", "4", "5"}
	checkAll(t, "before the mark", x, want...)
	if m := x.Mark(); m != 0 {
		t.Errorf("Mark: %d", m)
	}
	for range 3 {
		if x.Load(valid(t, h, "0 0:1 1:0; 0")) != 7 || !x.Unify(7, 4) || !x.Unify(8, 5) || !x.Unify(2, 2) || x.Unify(0, 7) {
			t.Error("Load and Unify after the mark")
		}
		cyclic := "4 0:1 1:0; 4"
		checkAll(t, "after the mark", x, "0 0:1; 5", "5", "0 0:1; 5", "5", cyclic, "4", "5", cyclic, "4")
		if !x.Undo(0) || x.Len() != 7 {
			t.Errorf("Undo: %d cells", x.Len())
		}
		checkAll(t, "after Undo", x, want...)
		if x.Load(valid(t, h, "1 2:1; 2")) != 7 {
			t.Error("Load after Undo")
		}
		checkAll(t, "after Load", x, append(slices.Clone(want), "1 2:1; 2", "2")...)
		if !x.Undo(0) || x.Unify(0, 7) || x.Unify(7, 0) {
			t.Error("Undo of Load")
		}
	}
}

// P12.6: a mark may be returned before there are cells.
func TestMarkFirst(t *testing.T) {
	h := diamond(t)
	x := trail.New(h)
	if x.Mark() != 0 || x.Load(fs("4 0:0")) != 0 || x.Mark() != 1 || x.Load(fs("0")) != 1 || !x.Unify(0, 1) || !x.Undo(0) || x.Len() != 0 {
		t.Errorf("a heap without cells: %d", x.Len())
	}
	if _, ok := x.Read(0); ok || x.Undo(1) || x.Load(fs("5 1:1; 1")) != 0 || !x.Undo(0) || x.Len() != 0 || x.Mark() != 1 {
		t.Errorf("a heap without cells again: %d", x.Len())
	}
}

// ring returns a structure of n nodes, each of which leads to the next one with the feature 0, and the last one to the given one.
func ring(n, back int) api.FS {
	f := api.FS{Nodes: make([]api.Node, n)}
	for i := range n {
		f.Nodes[i].Arcs = []api.Arc{{Feat: 0, To: i + 1}}
	}
	f.Nodes[n-1].Arcs[0].To = back
	return f
}

// P12.3, P12.7, R2: values may have more than MaxNodes nodes, and may be loaded.
func TestLarge(t *testing.T) {
	h := diamond(t)
	const n = api.MaxNodes - 1
	line := func(feat, last int) api.FS { return path.Under(slices.Repeat([]int{feat}, n), graph.Atom(last)) }
	x := trail.New(h)
	p, q := x.Load(line(0, c)), x.Load(line(1, d))
	if !x.Unify(p, q) {
		t.Error("Unify of two large structures")
	}
	long, _ := unify.Unify(h, line(0, c), line(1, d))
	for _, cell := range []int{p, q} {
		if f, ok := x.Read(cell); !ok || !graph.Equal(f, long) || len(f.Nodes) != 2*n+1 {
			t.Errorf("Read of %d: %d nodes, %v", cell, len(f.Nodes), ok)
		}
	}
	again := x.Load(long)
	if again != 2*(n+1) || x.Len() != again+2*n+1 || !x.Unify(again, p) {
		t.Errorf("Load of a large value: %d, %d cells", again, x.Len())
	}
	if f, ok := x.Read(again); !ok || !graph.Equal(f, long) {
		t.Errorf("Read of a large value: %d nodes, %v", len(f.Nodes), ok)
	}
}

// R1, R2: structures may be deeper and larger than what graph.Check accepts.
func TestDeep(t *testing.T) {
	h := diamond(t)
	const n = 1 << 17
	deep := func(last int) api.FS { return path.Under(make([]int, n), graph.Atom(last)) }
	x := trail.New(h)
	check := func(cell int, want api.FS) {
		t.Helper()
		if f, ok := x.Read(cell); !ok || !graph.Equal(f, want) {
			t.Errorf("Read of %d: %d nodes, %v", cell, len(f.Nodes), ok)
		}
	}
	p, q, clash, loop := x.Load(deep(a)), x.Load(deep(c)), x.Load(deep(d)), x.Load(ring(1, 0))
	x.Mark()
	if !x.Unify(p, q) || x.Unify(p, clash) {
		t.Error("Unify of deep structures")
	}
	check(p, deep(c))
	check(clash, deep(d))
	x.Mark()
	if !x.Unify(q, loop) {
		t.Error("Unify of a deep structure and a cycle")
	}
	one := ring(1, 0)
	one.Nodes[0].Type = c
	check(p+n/2, one)
	if !x.Undo(1) {
		t.Error("Undo")
	}
	check(q, deep(c))
	check(loop, ring(1, 0))
	if !x.Undo(0) || !x.Unify(loop, clash) || x.Unify(loop, q) || !x.Undo(0) {
		t.Error("Unify after Undo")
	}
	check(p, deep(a))
	check(q, deep(c))
	check(clash, deep(d))
	first, second := x.Load(ring(n, 0)), x.Load(ring(n-1, 0))
	if !x.Unify(first, second) {
		t.Error("Unify of large rings")
	}
	check(second, ring(1, 0))
}

// P12.4, P12.6: many cells that become equivalent one after the other, in either order, with a way that does not become long.
func TestManyCells(t *testing.T) {
	h := diamond(t)
	const n = 1 << 18
	x := trail.New(h)
	for range n {
		x.Load(graph.Atom(top))
	}
	last := x.Load(fs("4 63:0"))
	x.Mark()
	for c := range n {
		if !x.Unify(c+1, c) {
			t.Fatalf("Unify of %d and the one before", c+1)
		}
	}
	for round := range 3 {
		for c := range n {
			if !x.Unify(0, c) {
				t.Fatalf("Unify of 0 and %d", c)
			}
		}
		if f, ok := x.Read(round); !ok || show(f) != "4 63:0" {
			t.Errorf("Read of %d: %s, %v", round, show(f), ok)
		}
		if !x.Undo(0) {
			t.Error("Undo")
		}
		if f, ok := x.Read(round); !ok || show(f) != "0" {
			t.Errorf("Read of %d after Undo: %s, %v", round, show(f), ok)
		}
		for c := range n {
			if !x.Unify(last-c-1, last-c) {
				t.Fatalf("Unify of %d and the one after it", last-c-1)
			}
		}
	}
}

// P12.3, P12.4: cells are visited once, whatever the number of paths to them is; a cell may have an arc for each feature.
func TestManyPaths(t *testing.T) {
	h := diamond(t)
	const n = 1000
	build := func(last int) api.FS {
		f := api.FS{Nodes: make([]api.Node, n+1)}
		for i := range n {
			for feat := range api.MaxFeats {
				f.Nodes[i].Arcs = append(f.Nodes[i].Arcs, api.Arc{Feat: feat, To: i + 1})
			}
		}
		f.Nodes[n].Type = last
		return f
	}
	x := trail.New(h)
	p, q, clash := x.Load(build(a)), x.Load(build(b)), x.Load(build(c))
	x.Mark()
	if !x.Unify(p, q) || !x.Unify(clash, q) || x.Unify(x.Load(build(d)), p) || !x.Undo(0) || !x.Unify(p, q) {
		t.Error("Unify of structures with many paths")
	}
	if f, ok := x.Read(q); !ok || !graph.Equal(f, build(ab)) {
		t.Errorf("Read: %d nodes, %v", len(f.Nodes), ok)
	}
}

// R5: arguments are not changed, with the spare capacity of their lists; nothing of them is kept, and what was returned is not changed later.
func TestImmutable(t *testing.T) {
	h := diamond(t)
	x := trail.New(h)
	for i := range h.Types {
		clear(h.Types[i].Code)
		clear(h.Types[i].Supers)
	}
	clear(h.Types)
	clear(h.Feats)

	const text = "1 0:1 1:2; 2; 0"
	f := fs(text + "; 9 9:9")
	f.Nodes = f.Nodes[:len(f.Nodes)-1]
	for i := range f.Nodes {
		arcs := append(f.Nodes[i].Arcs, api.Arc{Feat: 77, To: 77})
		f.Nodes[i].Arcs = arcs[:len(arcs)-1]
	}
	check := func(what string) {
		t.Helper()
		if got := show(api.FS{Nodes: f.Nodes[:len(f.Nodes)+1]}); got != text+"; 9 9:9" {
			t.Fatalf("the argument after %s: %s", what, got)
		}
		for _, n := range f.Nodes {
			if n.Arcs[:len(n.Arcs)+1][len(n.Arcs)] != (api.Arc{Feat: 77, To: 77}) {
				t.Fatalf("the spare capacity of the arcs after %s", what)
			}
		}
	}
	x.Load(graph.Atom(5))
	p, q := x.Load(f), x.Load(f)
	check("Load")
	before, _ := x.Read(p)
	same, _ := x.Read(p)
	x.Mark()
	if !x.Unify(p, q) || !x.Unify(p+1, p+2) || !x.Unify(q, 0) {
		t.Error("Unify")
	}
	check("Unify")
	after, _ := x.Read(q)
	if show(before) != text || show(same) != text || show(after) != "5 0:1 1:1; 2" {
		t.Errorf("Read: %s, %s and %s", show(before), show(same), show(after))
	}
	for _, g := range []api.FS{before, after} {
		g.Nodes[0].Type = 4
		g.Nodes[0].Arcs[0].To = 0
		g.Nodes[0].Arcs = append(g.Nodes[0].Arcs[:1], api.Arc{Feat: 9, To: 1})
	}
	for i := range f.Nodes {
		f.Nodes[i].Type = 4
		for k := range f.Nodes[i].Arcs {
			f.Nodes[i].Arcs[k] = api.Arc{Feat: 3, To: 0}
		}
	}
	if again, _ := x.Read(p); show(again) != "5 0:1 1:1; 2" || show(same) != text {
		t.Errorf("Read after changes of the results and of the argument: %s and %s", show(again), show(same))
	}
	if again, _ := x.Read(q); !x.Undo(0) || show(again) != "5 0:1 1:1; 2" {
		t.Errorf("a result after Undo: %s", show(again))
	}
	if again, _ := x.Read(q); show(again) != text {
		t.Errorf("Read after Undo: %s", show(again))
	}
}
