package quasi_test

import (
	"slices"
	"strconv"
	"strings"
	"testing"

	"grammarlab/api"
	"grammarlab/graph"
	"grammarlab/hier"
	"grammarlab/path"
	"grammarlab/quasi"
	"grammarlab/unify"
)

// fs reads a graph: nodes with semicolons between them, each a type and arcs, each a feature and a node with a colon between them.
func fs(s string) api.FS {
	var f api.FS
	for _, part := range strings.Split(s, ";") {
		words := strings.Fields(part)
		n := api.Node{Type: number(words[0])}
		for _, w := range words[1:] {
			feat, to, _ := strings.Cut(w, ":")
			n.Arcs = append(n.Arcs, api.Arc{Feat: number(feat), To: number(to)})
		}
		f.Nodes = append(f.Nodes, n)
	}
	return f
}

// valid reads a feature structure that is valid for h.
func valid(t *testing.T, h api.Hierarchy, s string) api.FS {
	t.Helper()
	f := fs(s)
	if e := graph.Check(h, f); e != api.OK {
		t.Fatalf("%s: %v", s, e)
	}
	return f
}

// show writes a graph as fs reads it.
func show(f api.FS) string {
	var l []string
	for _, n := range f.Nodes {
		s := strconv.Itoa(n.Type)
		for _, a := range n.Arcs {
			s += " " + strconv.Itoa(a.Feat) + ":" + strconv.Itoa(a.To)
		}
		l = append(l, s)
	}
	return strings.Join(l, "; ")
}

func number(s string) int {
	n, err := strconv.Atoi(s)
	if err != nil {
		panic(err)
	}
	return n
}

// The types of the hierarchy of most tests: c and d are below c&d, which is below a and b.
const (
	top = iota
	a
	b
	ab
	c
	d
)

// diamond returns this hierarchy, with 64 features.
func diamond(t *testing.T) api.Hierarchy {
	t.Helper()
	l := []api.TypeDecl{{Name: "top"}, {Name: "a", Supers: []string{"top"}}, {Name: "b", Supers: []string{"top"}},
		{Name: "c", Supers: []string{"a", "b"}}, {Name: "d", Supers: []string{"a", "b"}}}
	for i := range api.MaxFeats {
		l[0].Feats = append(l[0].Feats, api.FeatDecl{Feat: "F" + strconv.Itoa(i), Value: "top"})
	}
	h, e := hier.Compile(l)
	if e != api.OK || len(h.Types) != 6 || hier.Type(h, "c&d") != ab || hier.Type(h, "c") != c || hier.Type(h, "b") != b {
		t.Fatal(h, e)
	}
	return h
}

// filled returns a pool with some structures.
func filled(t *testing.T, h api.Hierarchy, texts ...string) *quasi.Pool {
	t.Helper()
	x := quasi.New(h)
	for i, s := range texts {
		if n := x.Put(valid(t, h, s)); n != i {
			t.Fatalf("Put: %d, not %d", n, i)
		}
	}
	return x
}

// readAll returns what Read returns for each number.
func readAll(x *quasi.Pool) []string {
	var l []string
	for {
		f, ok := x.Read(len(l))
		if !ok {
			return l
		}
		l = append(l, show(f))
	}
}

// checkAll compares what Read returns for each number.
func checkAll(t *testing.T, what string, x *quasi.Pool, want ...string) {
	t.Helper()
	if got := readAll(x); !slices.Equal(got, want) {
		t.Errorf("%s: %s, not %s", what, strings.Join(got, " | "), strings.Join(want, " | "))
	}
}

// fails stands for the result of a unification that fails.
const fails = "-"

// tried calls Test and Unify, and writes the result. It checks what both say of the pool.
func tried(t *testing.T, x *quasi.Pool, a, b int) string {
	t.Helper()
	before, size := readAll(x), x.Size()
	test, back := x.Test(a, b), x.Test(b, a)
	if x.Size() != size {
		t.Fatalf("Test of %d and %d changes the size from %d to %d", a, b, size, x.Size())
	}
	checkAll(t, "after Test", x, before...)
	n, ok := x.Unify(a, b)
	if test != ok || back != ok {
		t.Fatalf("Test of %d and %d: %v and %v, but Unify %v", a, b, test, back, ok)
	}
	if !ok {
		if n != 0 || x.Size() != size {
			t.Fatalf("Unify of %d and %d, which fails: %d, and the size %d, not %d", a, b, n, x.Size(), size)
		}
		checkAll(t, "after a Unify that fails", x, before...)
		return fails
	}
	if n != len(before) {
		t.Fatalf("Unify of %d and %d: %d, not %d", a, b, n, len(before))
	}
	f, is := x.Read(n)
	if grown := x.Size() - size; !is || grown < 0 || grown > len(f.Nodes) || x.Size() < len(f.Nodes) {
		t.Fatalf("Unify of %d and %d: %s, %v; the size was %d, and is %d", a, b, show(f), is, size, x.Size())
	}
	checkAll(t, "after Unify", x, append(before, show(f))...)
	return show(f)
}

// flags returns a hierarchy with the types top 0, x 1 and y 2, of which x and y have no common subtype, and a feature.
func flags(t *testing.T) api.Hierarchy {
	t.Helper()
	h, e := hier.Compile([]api.TypeDecl{{Name: "top", Feats: []api.FeatDecl{{Feat: "F", Value: "top"}}}, {Name: "x", Supers: []string{"top"}}, {Name: "y", Supers: []string{"top"}}})
	if e != api.OK {
		t.Fatal(e)
	}
	return h
}

// P13.2 to P13.6: the example of the chapter.
func TestExample(t *testing.T) {
	x := filled(t, flags(t), "0 0:1; 1", "0 0:1; 0", "0 0:1; 2")
	if n, ok := x.Unify(0, 1); n != 3 || !ok {
		t.Errorf("Unify of 0 and 1: %d, %v", n, ok)
	}
	if f, ok := x.Read(3); !ok || show(f) != "0 0:1; 1" {
		t.Errorf("Read of 3: %s, %v", show(f), ok)
	}
	if n, ok := x.Unify(0, 2); n != 0 || ok {
		t.Errorf("Unify of 0 and 2: %d, %v", n, ok)
	}
	if !x.Test(1, 2) {
		t.Error("Test of 1 and 2")
	}
	if n, ok := x.Unify(1, 2); n != 4 || !ok {
		t.Errorf("Unify of 1 and 2: %d, %v", n, ok)
	}
	if s := x.Size(); s < 2 || s > 10 {
		t.Errorf("Size: %d", s)
	}
}

// P13.1, P13.3, P13.4, P13.5, P13.6
func TestNew(t *testing.T) {
	h := diamond(t)
	x, y := quasi.New(h), quasi.New(h)
	if x.Size() != 0 {
		t.Errorf("a new pool: %d nodes", x.Size())
	}
	for _, n := range []int{-1, 0, 1} {
		if f, ok := x.Read(n); ok || f.Nodes != nil {
			t.Errorf("Read of %d in a new pool: %s, %v", n, show(f), ok)
		}
		if k, ok := x.Unify(n, n); k != 0 || ok || x.Test(n, n) {
			t.Errorf("Unify or Test of %d in a new pool: %d, %v", n, k, ok)
		}
	}
	if x.Size() != 0 {
		t.Errorf("a pool in which nothing was put: %d nodes", x.Size())
	}
	// Pools do not depend on each other.
	x.Put(fs("4 0:0"))
	if y.Size() != 0 || y.Put(fs("1 0:1; 2")) != 0 || x.Put(fs("0")) != 1 || !y.Test(0, 0) || y.Test(0, 1) {
		t.Errorf("two pools: %d and %d nodes", x.Size(), y.Size())
	}
	checkAll(t, "the first pool", x, "4 0:0", "0")
	checkAll(t, "the second pool", y, "1 0:1; 2")
}

// P13.2, P13.3, P13.6
func TestPut(t *testing.T) {
	h := diamond(t)
	x := quasi.New(h)
	var want []string
	most := 0
	for i, s := range []string{"0", "4 0:1 1:2; 5; 1 63:3; 2", "0 0:0", "1 0:1; 2 0:0 3:2; 3", "4 0:1 1:1; 5", "0", "4 0:1 1:1; 5"} {
		f, size := valid(t, h, s), x.Size()
		if n := x.Put(f); n != i {
			t.Errorf("Put of %s: %d, not %d", s, n, i)
		}
		most = max(most, len(f.Nodes))
		if grown := x.Size() - size; grown < 0 || grown > len(f.Nodes) || x.Size() < most {
			t.Errorf("Put of %s: the size was %d, and is %d", s, size, x.Size())
		}
		want = append(want, s)
		checkAll(t, "after Put", x, want...)
	}
	size := x.Size()
	for _, n := range []int{-1, -1 << 40, len(want), len(want) + 1, 1 << 40} {
		if f, ok := x.Read(n); ok || f.Nodes != nil {
			t.Errorf("Read of %d: %s, %v", n, show(f), ok)
		}
	}
	if x.Size() != size {
		t.Errorf("Read changes the size from %d to %d", size, x.Size())
	}
}

// P13.4, P13.5, P13.7
func TestUnify(t *testing.T) {
	h := diamond(t)
	for _, x := range []struct{ f, g, want string }{
		// Types, at the root and below it.
		{"0", "0", "0"}, {"4", "4", "4"}, {"0", "5", "5"}, {"1", "2", "3"}, {"1", "4", "4"}, {"3", "5", "5"}, {"4", "5", fails},
		{"1 0:1; 1", "2 0:1; 2", "3 0:1; 3"},
		{"1 0:1; 4", "2 0:1; 5", fails},
		{"4 0:1; 1", "5 0:1; 1", fails},
		{"1 0:1; 1 0:2; 1 0:3; 4", "2 0:1; 4 0:2; 5 0:3; 2", "3 0:1; 4 0:2; 5 0:3; 4"},
		{"1 0:1; 1 0:2; 1 0:3; 4", "2 0:1; 4 0:2; 5 0:3; 5", fails},
		// Features of one of the two, of both, and of neither.
		{"1", "1 1:1; 1", "1 1:1; 1"},
		{"1 0:1; 4", "1 1:1; 5", "1 0:1 1:2; 4; 5"},
		{"1 1:1; 4", "1 0:1; 5", "1 0:1 1:2; 5; 4"},
		{"0 1:1 3:2 5:3; 1; 2; 4", "0 0:1 3:2 4:3 6:4; 4; 4; 5; 5", "0 0:1 1:2 3:3 4:4 5:5 6:6; 4; 1; 4; 5; 4; 5"},
		{"0 62:1; 1", "0 0:1 63:2; 2; 4", "0 0:1 62:2 63:3; 2; 1; 4"},
		{"0 0:1 1:2; 1; 1 0:3; 2", "0 0:1; 2 1:2; 4", "0 0:1 1:3; 3 1:2; 4; 1 0:4; 2"},
		// Parts that are the same in one of the two and in the unification, beside others that are not.
		{"0 0:1 1:3; 1 2:2; 4; 2", "0 1:1; 5 3:2; 4", "0 0:1 1:3; 1 2:2; 4; 5 3:4; 4"},
		{"0 0:1 1:3; 1 2:2; 4; 2 2:2", "0 1:1; 0 2:2; 4 3:3; 1", "0 0:1 1:4; 1 2:2; 4 3:3; 1; 2 2:2"},
		{"0 0:1; 1 0:2; 1 0:3; 1", "0 0:1; 0 0:2; 0 0:3; 1 1:4; 4", "0 0:1; 1 0:2; 1 0:3; 1 1:4; 4"},
		// Paths lead to one node if they do in one of the two.
		{"0 0:1 1:1; 1", "0 0:1 1:2; 2; 4", "0 0:1 1:1; 4"},
		{"0 0:1 1:1; 1", "0 0:1 1:2; 4; 5", fails},
		{"0 0:1 1:1; 4", "0 0:1 1:2; 5; 0", fails},
		{"0 0:1 1:1 2:2; 1; 1", "0 0:1 1:2 2:2; 2; 2", "0 0:1 1:1 2:1; 3"},
		{"0 0:1 1:1; 0", "0 0:1 1:2; 1; 1", "0 0:1 1:1; 1"},
		{"0 0:1 1:1; 0", "0 0:1 1:3; 1 2:2; 4; 2 3:4; 5", "0 0:1 1:1; 3 2:2 3:3; 4; 5"},
		{"0 0:1 1:1; 0", "0 0:1 1:3; 1 2:2; 4; 2 2:4; 5", fails},
		{"0 0:1 1:1 2:2; 0 3:2; 4", "0 0:1 1:2 2:4; 0; 0 3:3; 5; 2", fails},
		// Cycles.
		{"1 0:0", "2 0:0", "3 0:0"},
		{"4 0:0", "5 0:0", fails},
		{"1 0:0", "1 0:0 1:1; 4", "1 0:0 1:1; 4"},
		{"1 0:1; 2 0:0", "0 0:0", "3 0:0"},
		{"4 0:1; 5 0:0", "0 0:0", fails},
		{"4 0:1; 5 0:0", "0 0:1; 0 0:0", "4 0:1; 5 0:0"},
		{"4 0:1; 5 0:0", "0 0:1; 0 0:2; 0 0:0", fails},
		{"0 0:1; 1 0:0", "0 0:1; 0 0:2; 2 0:0", "3 0:0"},
		{"0 0:0 1:0", "1 0:1 1:2; 2; 4 2:3; 5", "4 0:0 1:0 2:1; 5"},
		{"0 0:1 1:1; 4", "0 0:1 1:2; 0; 0 2:3; 5 2:1", "0 0:1 1:1; 4 2:2; 5 2:1"},
		{"0 0:1 1:1; 4", "0 0:1 1:2; 0 2:1; 0 2:3; 5", fails},
	} {
		for _, l := range [][]string{{x.f, x.g}, {x.g, x.f}} {
			for _, p := range [][2]int{{0, 1}, {1, 0}} {
				pool := filled(t, h, l...)
				for range 2 {
					if got := tried(t, pool, p[0], p[1]); got != x.want {
						t.Errorf("Unify of %s and %s: %s, not %s", l[p[0]], l[p[1]], got, x.want)
					}
				}
				for i, s := range l {
					if got := tried(t, pool, i, i); got != s {
						t.Errorf("Unify of %s and itself: %s", s, got)
					}
				}
			}
		}
	}
}

// P13.4, P13.5: a number that is not one of a feature structure.
func TestNoNumber(t *testing.T) {
	x := filled(t, diamond(t), "1 0:1; 2", "4")
	size := x.Size()
	for _, n := range []int{-1, -1 << 40, 2, 3, 1 << 40} {
		for k := range 2 {
			if tried(t, x, n, k) != fails || tried(t, x, k, n) != fails {
				t.Errorf("Unify of %d and %d", n, k)
			}
		}
		if tried(t, x, n, n) != fails {
			t.Errorf("Unify of %d and itself", n)
		}
	}
	if x.Size() != size {
		t.Errorf("the size was %d, and is %d", size, x.Size())
	}
	checkAll(t, "after Unify of what are not numbers", x, "1 0:1; 2", "4")
}

// P13.3, P13.4, P13.7: what the two have in common may be the value of different paths in them, and is not the value of all these paths then.
func TestInCommon(t *testing.T) {
	h := diamond(t)
	// Each step unifies two numbers; those of the steps follow those of the structures.
	for _, x := range []struct {
		texts []string
		steps [][2]int
		want  []string
	}{
		// A part stands at two paths in what Unify returned, and at a third one in what it was made of.
		{
			[]string{"0 0:1; 1 3:2; 4", "0 1:1; 2", "0 0:1 1:1; 0", "0 0:1; 0 3:2; 0 4:3; 5"},
			[][2]int{{0, 1}, {0, 2}, {4, 5}, {6, 3}, {4, 3}, {0, 3}},
			[]string{"0 0:1 1:3; 1 3:2; 4; 2", "0 0:1 1:1; 1 3:2; 4", "0 0:1 1:1; 3 3:2; 4", "0 0:1 1:1; 3 3:2; 4 4:3; 5",
				"0 0:1 1:4; 1 3:2; 4 4:3; 5; 2", "0 0:1; 1 3:2; 4 4:3; 5"},
		},
		// Structures that were made of the same one, and which both have its parts.
		{
			[]string{"0 0:1 1:2; 1; 2", "0 2:1; 4", "0 2:1; 5", "0 2:1; 2"},
			[][2]int{{0, 1}, {0, 2}, {4, 5}, {0, 3}, {4, 7}, {7, 5}, {4, 4}},
			[]string{"0 0:1 1:2 2:3; 1; 2; 4", "0 0:1 1:2 2:3; 1; 2; 5", "", "0 0:1 1:2 2:3; 1; 2; 2",
				"0 0:1 1:2 2:3; 1; 2; 4", "0 0:1 1:2 2:3; 1; 2; 5", "0 0:1 1:2 2:3; 1; 2; 4"},
		},
		// The one has a part at the root, the other one as a value: they do not become one node.
		{
			[]string{"1 0:1; 4", "0 0:1; 0 1:1", "0 1:1; 0"},
			[][2]int{{0, 1}, {0, 2}, {3, 4}, {5, 0}},
			[]string{"1 0:1; 4 1:1", "1 0:1 1:2; 4; 0", "1 0:1 1:2; 4 1:1; 0", "1 0:1 1:2; 4 1:1; 0"},
		},
	} {
		pool := filled(t, h, x.texts...)
		next := len(x.texts)
		numbers := make([]int, 0, next+len(x.steps))
		for i := range x.texts {
			numbers = append(numbers, i)
		}
		for i, s := range x.steps {
			want := x.want[i]
			if want == "" {
				want = fails
			}
			if got := tried(t, pool, numbers[s[0]], numbers[s[1]]); got != want {
				t.Errorf("the step %d in %s: %s, not %s", i, strings.Join(x.texts, " | "), got, want)
			}
			numbers = append(numbers, next)
			if want != fails {
				next++
			}
		}
	}
}

// P13.4, P13.6, P13.7: the same part is at different paths of the two, and both of these are paths of the unification.
func TestTwice(t *testing.T) {
	h := diamond(t)
	// A list: the value of REST (1) of the longer one is a part of the shorter one too.
	x := filled(t, h, "1 0:1 1:2; 4; 1 0:3 1:4; 4; 2", "0 2:1; 0", "0 2:1 3:1; 0", "0 3:1; 1 0:2; 4")
	for i, s := range []struct {
		a, b int
		want string
	}{
		{0, 1, "1 0:1 1:2 2:5; 4; 1 0:3 1:4; 4; 2; 0"},
		{0, 2, "1 0:1 1:2 2:5 3:5; 4; 1 0:3 1:4; 4; 2; 0"},
		{4, 5, "1 0:1 1:2 2:5 3:5; 4; 1 0:3 1:4; 4; 2; 0"},
		{4, 3, "1 0:1 1:2 2:5 3:6; 4; 1 0:3 1:4; 4; 2; 0; 1 0:7; 4"},
		{5, 3, "1 0:1 1:2 2:5 3:5; 4; 1 0:3 1:4; 4; 2; 1 0:6; 4"},
		{7, 8, "1 0:1 1:2 2:5 3:5; 4; 1 0:3 1:4; 4; 2; 1 0:6; 4"},
		{0, 9, "1 0:1 1:2 2:5 3:5; 4; 1 0:3 1:4; 4; 2; 1 0:6; 4"},
	} {
		if got := tried(t, x, s.a, s.b); got != s.want {
			t.Errorf("the step %d: %s, not %s", i, got, s.want)
		}
	}
}

// The purpose of the layer: what does not change is shared. How much of it is no promise.
func TestSharing(t *testing.T) {
	h := diamond(t)
	// The general one subsumes the special one; the node of the type 3 is the same in both.
	const general, special = "0 0:1 1:4; 1 0:2; 0 3:3; 3; 0 0:2", "4 0:1 1:4; 1 0:2; 5 3:3; 3; 0 0:2 1:5; 2"
	x := filled(t, h, general, special, "0 2:1; 4", "0 0:1; 2")
	for _, s := range []struct {
		a, b, most int
		want       string
	}{
		{0, 0, 0, general}, {1, 1, 0, special}, {0, 1, 0, special}, {1, 0, 0, special},
		// One new node, beside what the two have.
		{0, 2, 1, "0 0:1 1:4 2:5; 1 0:2; 0 3:3; 3; 0 0:2; 4"},
		{2, 0, 1, "0 0:1 1:4 2:5; 1 0:2; 0 3:3; 3; 0 0:2; 4"},
		// The root, and the value that changes.
		{1, 3, 2, "4 0:1 1:4; 3 0:2; 5 3:3; 3; 0 0:2 1:5; 2"},
	} {
		size := x.Size()
		if got := tried(t, x, s.a, s.b); got != s.want || x.Size()-size > s.most {
			t.Errorf("Unify of %d and %d: %s, %d new nodes", s.a, s.b, got, x.Size()-size)
		}
	}
}

// P13.4: the types of three nodes may have no common subtype though each two of them have one.
func TestThreeTypes(t *testing.T) {
	l := []api.TypeDecl{{Name: "top", Feats: []api.FeatDecl{{Feat: "F", Value: "top"}, {Feat: "G", Value: "top"}, {Feat: "H", Value: "top"}}}}
	for _, s := range []string{"a", "b", "c"} {
		l = append(l, api.TypeDecl{Name: s, Supers: []string{"top"}})
	}
	for _, s := range []string{"ab", "ac", "bc"} {
		l = append(l, api.TypeDecl{Name: s, Supers: []string{s[:1], s[1:]}})
	}
	h, e := hier.Compile(l)
	if e != api.OK {
		t.Fatal(e)
	}
	number := func(s string) int { return hier.Type(h, s) }
	for _, x := range []struct{ first, second, third, want string }{
		{"a", "b", "top", "ab"}, {"a", "top", "c", "ac"}, {"top", "b", "c", "bc"}, {"a", "b", "c", ""}, {"a", "ab", "b", "ab"}, {"ab", "ac", "a", ""},
	} {
		pool := filled(t, h, "0 0:1 1:1 2:1; 0")
		f := fs("0 0:1 1:2 2:3; 0; 0; 0")
		for i, s := range []string{x.first, x.second, x.third} {
			f.Nodes[i+1].Type = number(s)
			pool.Put(graph.Atom(number(s)))
		}
		pool.Put(f)
		want := fails
		if x.want != "" {
			want = "0 0:1 1:1 2:1; " + strconv.Itoa(number(x.want))
		}
		if got := tried(t, pool, 0, 4); got != want {
			t.Errorf("%v: %s", x, got)
		}
		n, ok := pool.Unify(1, 2)
		if ok {
			n, ok = pool.Unify(n, 3)
		}
		if g, is := pool.Read(n); ok != (x.want != "") || ok && (!is || !graph.Equal(g, graph.Atom(number(x.want)))) {
			t.Errorf("one after the other %v: %s, %v", x, show(g), ok)
		}
	}
}

// ring returns a structure of n nodes, each of which leads to the next one with the feature 0, and the last one to the given one.
func ring(n, back int) api.FS {
	f := api.FS{Nodes: make([]api.Node, n)}
	for i := range n {
		f.Nodes[i].Arcs = []api.Arc{{Feat: 0, To: i + 1}}
	}
	f.Nodes[n-1].Arcs[0].To = back
	return f
}

// check compares what Read returns for a number.
func check(t *testing.T, x *quasi.Pool, n int, want api.FS) {
	t.Helper()
	if f, ok := x.Read(n); !ok || !graph.Equal(f, want) {
		t.Errorf("Read of %d: %d nodes, %v", n, len(f.Nodes), ok)
	}
}

// P13.3, P13.4, R2: unifications may have more than MaxNodes nodes, and may be put into a pool.
func TestLarge(t *testing.T) {
	h := diamond(t)
	const n = api.MaxNodes - 1
	line := func(feat, last int) api.FS { return path.Under(slices.Repeat([]int{feat}, n), graph.Atom(last)) }
	x := quasi.New(h)
	p, q, bad := x.Put(line(0, c)), x.Put(line(1, d)), x.Put(line(1, c))
	long, _ := unify.Unify(h, line(0, c), line(1, d))
	u, ok := x.Unify(p, q)
	if !ok || len(long.Nodes) != 2*n+1 {
		t.Fatalf("Unify of two large structures: %v", ok)
	}
	check(t, x, u, long)
	again := x.Put(long)
	check(t, x, again, long)
	v, ok := x.Unify(u, again)
	if !ok || x.Test(u, bad) || x.Test(bad, again) || !x.Test(p, again) {
		t.Errorf("Unify of large unifications: %v", ok)
	}
	check(t, x, v, long)
	if s := x.Size(); s < 2*n+1 || s > 3*(n+1)+3*(2*n+1) {
		t.Errorf("Size: %d", s)
	}
}

// R1, R2: structures may be deeper and larger than what graph.Check accepts.
func TestDeep(t *testing.T) {
	h := diamond(t)
	const n = 1 << 17
	deep := func(last int) api.FS { return path.Under(make([]int, n), graph.Atom(last)) }
	x := quasi.New(h)
	p, q, clash, loop := x.Put(deep(a)), x.Put(deep(c)), x.Put(deep(d)), x.Put(ring(1, 0))
	u, ok := x.Unify(p, q)
	if size := x.Size(); !ok || x.Test(u, clash) || x.Test(clash, q) || x.Size() != size {
		t.Errorf("Unify of deep structures: %v", ok)
	}
	check(t, x, u, deep(c))
	one := ring(1, 0)
	one.Nodes[0].Type = c
	if u, ok = x.Unify(q, loop); !ok {
		t.Error("Unify of a deep structure and a cycle")
	}
	check(t, x, u, one)
	if x.Test(u, clash) || !x.Test(loop, clash) {
		t.Error("Test of a deep structure and a cycle")
	}
	first, second := x.Put(ring(n, 0)), x.Put(ring(n-1, 0))
	if u, ok = x.Unify(first, second); !ok {
		t.Error("Unify of large rings")
	}
	check(t, x, u, ring(1, 0))
	if u, ok = x.Unify(first, first); !ok {
		t.Error("Unify of a large ring and itself")
	}
	check(t, x, u, ring(n, 0))
	check(t, x, p, deep(a))
	check(t, x, clash, deep(d))
}

// tree returns a tree whose branches have a feature each, and whose leaves lead back: each one to the one before, and the first one to the last one.
func tree(depth int) api.FS {
	const ways = 4
	f := api.FS{Nodes: make([]api.Node, 1)}
	leaves := []int{0}
	for range depth {
		var below []int
		for _, n := range leaves {
			for feat := range ways {
				below = append(below, len(f.Nodes))
				f.Nodes[n].Arcs = append(f.Nodes[n].Arcs, api.Arc{Feat: feat, To: len(f.Nodes)})
				f.Nodes = append(f.Nodes, api.Node{})
			}
		}
		leaves = below
	}
	for i, n := range leaves {
		f.Nodes[n].Arcs = []api.Arc{{Feat: ways, To: leaves[(i+len(leaves)-1)%len(leaves)]}}
	}
	return graph.Sub(f, 0)
}

// P13.4: nodes are visited a few times, whatever the number of paths to them is and however a change spreads; a node may have an arc for each feature.
func TestManyPaths(t *testing.T) {
	h := diamond(t)
	const n = 1000
	build := func(last int) api.FS {
		f := api.FS{Nodes: make([]api.Node, n+1)}
		for i := range n {
			for feat := range api.MaxFeats {
				f.Nodes[i].Arcs = append(f.Nodes[i].Arcs, api.Arc{Feat: feat, To: i + 1})
			}
		}
		f.Nodes[n].Type = last
		return f
	}
	x := quasi.New(h)
	p, q, clash := x.Put(build(a)), x.Put(build(b)), x.Put(build(c))
	u, ok := x.Unify(p, q)
	if !ok || x.Test(x.Put(build(d)), clash) || !x.Test(u, clash) {
		t.Error("Unify of structures with many paths")
	}
	check(t, x, u, build(ab))

	const depth = 8
	big := tree(depth)
	for _, zeros := range []int{0, 1, depth} {
		// A type at one path changes all nodes from which it can be reached: the whole structure.
		at := path.Under(make([]int, zeros), graph.Atom(c))
		want, _ := unify.Unify(h, big, at)
		u, ok := x.Unify(x.Put(big), x.Put(at))
		if !ok {
			t.Errorf("Unify of a tree and %d features", zeros)
		}
		check(t, x, u, want)
	}
}

// P13.3, P13.6: a pool may have many structures, which share what they have in common or not.
func TestManyStructures(t *testing.T) {
	h := diamond(t)
	x := quasi.New(h)
	all, most := x.Put(graph.Atom(top)), 1
	for feat := range api.MaxFeats {
		for k := range 8 {
			p := []int{feat, k, feat}
			f, ok := unify.Equate(h, graph.Atom(top), p, p[:k%3])
			if !ok {
				t.Fatal("Equate")
			}
			size := x.Size()
			part := x.Put(f)
			if x.Size()-size > len(f.Nodes) {
				t.Fatalf("Put of %s: the size was %d, and is %d", show(f), size, x.Size())
			}
			size = x.Size()
			before, _ := x.Read(all)
			want, ok := unify.Unify(h, before, f)
			u, is := x.Unify(all, part)
			if !ok || !is || u != part+1 || x.Size()-size > len(want.Nodes) {
				t.Fatalf("Unify of %d and %d: %d, %v; the size was %d, and is %d", all, part, u, is, size, x.Size())
			}
			check(t, x, u, want)
			check(t, x, all, before)
			all, most = u, max(most, len(want.Nodes))
		}
	}
	if x.Size() < most {
		t.Errorf("Size: %d, but there is a structure with %d nodes", x.Size(), most)
	}
}

// R5: arguments are not changed, with the spare capacity of their lists; nothing of them is kept, and what was returned is not changed later.
func TestImmutable(t *testing.T) {
	h := diamond(t)
	x := quasi.New(h)
	for i := range h.Types {
		clear(h.Types[i].Code)
		clear(h.Types[i].Supers)
	}
	clear(h.Types)
	clear(h.Feats)

	const text = "1 0:1 1:2; 2; 0"
	f := fs(text + "; 9 9:9")
	f.Nodes = f.Nodes[:len(f.Nodes)-1]
	for i := range f.Nodes {
		arcs := append(f.Nodes[i].Arcs, api.Arc{Feat: 77, To: 77})
		f.Nodes[i].Arcs = arcs[:len(arcs)-1]
	}
	check := func(what string) {
		t.Helper()
		if got := show(api.FS{Nodes: f.Nodes[:len(f.Nodes)+1]}); got != text+"; 9 9:9" {
			t.Fatalf("the argument after %s: %s", what, got)
		}
		for _, n := range f.Nodes {
			if n.Arcs[:len(n.Arcs)+1][len(n.Arcs)] != (api.Arc{Feat: 77, To: 77}) {
				t.Fatalf("the spare capacity of the arcs after %s", what)
			}
		}
	}
	p, q := x.Put(f), x.Put(fs("2 1:1; 5"))
	check("Put")
	before, _ := x.Read(p)
	same, _ := x.Read(p)
	u, ok := x.Unify(p, q)
	v, is := x.Unify(u, p)
	if !ok || !is || !x.Test(p, q) {
		t.Error("Unify")
	}
	check("Unify")
	const both = "3 0:1 1:2; 2; 5"
	after, _ := x.Read(u)
	last, _ := x.Read(v)
	if show(before) != text || show(same) != text || show(after) != both || show(last) != both {
		t.Errorf("Read: %s, %s, %s and %s", show(before), show(same), show(after), show(last))
	}
	for _, g := range []api.FS{before, after} {
		g.Nodes[0].Type = 4
		g.Nodes[0].Arcs[0].To = 0
		g.Nodes[0].Arcs = append(g.Nodes[0].Arcs[:1], api.Arc{Feat: 9, To: 1})
	}
	for i := range f.Nodes {
		f.Nodes[i].Type = 4
		for k := range f.Nodes[i].Arcs {
			f.Nodes[i].Arcs[k] = api.Arc{Feat: 3, To: 0}
		}
	}
	if show(same) != text || show(last) != both {
		t.Errorf("results after changes of others and of the argument: %s and %s", show(same), show(last))
	}
	checkAll(t, "after changes of the results and of the argument", x, text, "2 1:1; 5", both, both)
}
