package unify_test

import (
	"math/rand"
	"slices"
	"testing"

	"grammarlab/api"
	"grammarlab/graph"
	"grammarlab/hier"
	"grammarlab/path"
	"grammarlab/subsume"
	"grammarlab/unify"
)

// feats is how many features the random structures have.
const feats = 3

// canon returns the canonical form of a graph that has one.
func canon(t *testing.T, f api.FS) api.FS {
	t.Helper()
	f, e := graph.Canon(f)
	if e != api.OK {
		t.Fatal(e)
	}
	return f
}

// random returns a feature structure of at most so many nodes, which may be cyclic.
func random(t *testing.T, r *rand.Rand, most int) api.FS {
	t.Helper()
	size := 1 + r.Intn(most)
	types := [][]int{{top, a, b}, {top, a, b, ab, c, c, d, d}, {c, c, d}}[r.Intn(3)]
	f := api.FS{Nodes: make([]api.Node, size)}
	for i := range f.Nodes {
		f.Nodes[i].Type = types[r.Intn(len(types))]
		for feat := range feats {
			if r.Intn(2) == 0 {
				f.Nodes[i].Arcs = append(f.Nodes[i].Arcs, api.Arc{Feat: feat, To: r.Intn(size)})
			}
		}
	}
	return canon(t, f)
}

// relaxed returns a feature structure that subsumes f: some nodes are divided, some types are replaced by supertypes, and some arcs are dropped.
func relaxed(t *testing.T, r *rand.Rand, h api.Hierarchy, f api.FS) api.FS {
	t.Helper()
	var g api.FS
	for _, n := range f.Nodes {
		g.Nodes = append(g.Nodes, api.Node{Type: n.Type, Arcs: slices.Clone(n.Arcs)})
	}
	for range r.Intn(4) {
		n := g.Nodes[r.Intn(len(g.Nodes))]
		if len(n.Arcs) > 0 {
			arc := &n.Arcs[r.Intn(len(n.Arcs))]
			twin := g.Nodes[arc.To]
			arc.To = len(g.Nodes)
			g.Nodes = append(g.Nodes, api.Node{Type: twin.Type, Arcs: slices.Clone(twin.Arcs)})
		}
	}
	for i, n := range g.Nodes {
		if l := h.Types[n.Type].Supers; len(l) > 0 && r.Intn(3) == 0 {
			g.Nodes[i].Type = l[r.Intn(len(l))]
		}
		if len(n.Arcs) > 0 && r.Intn(5) == 0 {
			k := r.Intn(len(n.Arcs))
			g.Nodes[i].Arcs = slices.Delete(n.Arcs, k, k+1)
		}
	}
	return canon(t, g)
}

// target returns the node to which an arc of a node leads, or -1.
func target(n api.Node, feat int) int {
	for _, arc := range n.Arcs {
		if arc.Feat == feat {
			return arc.To
		}
	}
	return -1
}

// relation follows the definition: the least equivalence relation that contains a pair of nodes and is closed under features. It gives a number to the class of each node.
func relation(nodes []api.Node, x, y int) []int {
	class := make([]int, len(nodes))
	for n := range class {
		class[n] = n
	}
	equate := func(x, y int) bool {
		from, to := class[x], class[y]
		for n, k := range class {
			if k == from {
				class[n] = to
			}
		}
		return from != to
	}
	for more := equate(x, y); more; {
		more = false
		for n := range nodes {
			for k := range n {
				for feat := range 64 {
					v, w := target(nodes[n], feat), target(nodes[k], feat)
					if class[n] == class[k] && v >= 0 && w >= 0 && equate(v, w) {
						more = true
					}
				}
			}
		}
	}
	return class
}

// classType follows the definition: the most general one of the types that all types of some nodes subsume.
func classType(h api.Hierarchy, types []int) (int, bool) {
	var below []int
	for t := range h.Types {
		if !slices.ContainsFunc(types, func(s int) bool { return !hier.Subsumes(h, s, t) }) {
			below = append(below, t)
		}
	}
	for _, t := range below {
		if !slices.ContainsFunc(below, func(s int) bool { return !hier.Subsumes(h, t, s) }) {
			return t, true
		}
	}
	return 0, false
}

// classGraph follows the definition of the graph of the classes of a relation, whose root is the class of the node 0.
func classGraph(h api.Hierarchy, nodes []api.Node, class []int) (api.FS, bool) {
	numbers := []int{class[0]}
	for _, k := range class {
		if !slices.Contains(numbers, k) {
			numbers = append(numbers, k)
		}
	}
	var f api.FS
	for _, number := range numbers {
		var types []int
		var n api.Node
		for k, x := range nodes {
			if class[k] != number {
				continue
			}
			types = append(types, x.Type)
			for _, arc := range x.Arcs {
				to := slices.Index(numbers, class[arc.To])
				if target(n, arc.Feat) < 0 {
					n.Arcs = append(n.Arcs, api.Arc{Feat: arc.Feat, To: to})
				}
			}
		}
		var ok bool
		if n.Type, ok = classType(h, types); !ok {
			return api.FS{}, false
		}
		f.Nodes = append(f.Nodes, n)
	}
	return f, true
}

// unified follows the definition of the unification.
func unified(t *testing.T, h api.Hierarchy, f, g api.FS) (api.FS, bool) {
	t.Helper()
	nodes := slices.Clone(f.Nodes)
	for _, n := range g.Nodes {
		moved := api.Node{Type: n.Type}
		for _, arc := range n.Arcs {
			moved.Arcs = append(moved.Arcs, api.Arc{Feat: arc.Feat, To: arc.To + len(f.Nodes)})
		}
		nodes = append(nodes, moved)
	}
	u, ok := classGraph(h, nodes, relation(nodes, 0, len(f.Nodes)))
	if !ok {
		return api.FS{}, false
	}
	return canon(t, u), true
}

// P11.1, P11.6, R11
func TestDefinition(t *testing.T) {
	h := diamond(t)
	r := rand.New(rand.NewSource(41))
	count := make(map[bool]int)
	merged := 0
	for i := range 6000 {
		f, g := random(t, r, 1+i%9), random(t, r, 1+i%7)
		if i%3 == 0 {
			z := random(t, r, 1+i%9)
			f, g = relaxed(t, r, h, z), relaxed(t, r, h, z)
		}
		got, ok := unify.Unify(h, f, g)
		want, is := unified(t, h, f, g)
		if ok != is || show(got) != show(want) {
			t.Fatalf("Unify of %s and %s: %s, %v, not %s, %v", show(f), show(g), show(got), ok, show(want), is)
		}
		if back, is := unify.Unify(h, g, f); is != ok || show(back) != show(got) {
			t.Fatalf("Unify of %s and %s: %s, %v, not %s, %v", show(g), show(f), show(back), is, show(got), ok)
		}
		for _, with := range []api.FS{graph.Atom(top), f} {
			if same, ok := unify.Unify(h, with, f); !ok || show(same) != show(f) {
				t.Fatalf("Unify of %s and %s: %s, %v", show(with), show(f), show(same), ok)
			}
		}
		if e := graph.Check(h, got); ok && e != api.OK {
			t.Fatalf("Unify of %s and %s: %s, %v", show(f), show(g), show(got), e)
		}
		if ok && len(got.Nodes) < min(len(f.Nodes), len(g.Nodes)) {
			merged++
		}
		count[ok]++
	}
	if count[true] < 3000 || count[false] < 800 || merged < 300 {
		t.Errorf("unifications that succeed, and not: %v; %d are smaller than the arguments", count, merged)
	}
}

// P11.5, P11.7
func TestMostGeneral(t *testing.T) {
	h := diamond(t)
	r := rand.New(rand.NewSource(42))
	below, above, apart := 0, 0, 0
	for i := range 4000 {
		z := random(t, r, 1+i%9)
		f, g := relaxed(t, r, h, z), relaxed(t, r, h, z)
		if i%4 == 0 {
			f = z
		}
		u, ok := unify.Unify(h, f, g)
		if !ok || !subsume.Subsumes(h, f, u) || !subsume.Subsumes(h, g, u) || !subsume.Subsumes(h, u, z) {
			t.Fatalf("Unify of %s and %s, which subsume %s: %s, %v", show(f), show(g), show(z), show(u), ok)
		}
		for _, x := range []api.FS{relaxed(t, r, h, u), relaxed(t, r, h, z), random(t, r, 3)} {
			want := subsume.Subsumes(h, f, x) && subsume.Subsumes(h, g, x)
			if subsume.Subsumes(h, u, x) != want {
				t.Fatalf("%s, and Unify of %s and %s: %s", show(x), show(f), show(g), show(u))
			}
			if want {
				below++
			}
		}
		for _, x := range []api.FS{f, u, z, random(t, r, 3)} {
			want := subsume.Subsumes(h, x, g)
			both, ok := unify.Unify(h, x, g)
			if is := ok && graph.Equal(both, g); is != want {
				t.Fatalf("Unify of %s and %s: %s, %v", show(x), show(g), show(both), ok)
			}
			if want {
				above++
			} else {
				apart++
			}
		}
	}
	if below < 2000 || above < 3000 || apart < 3000 {
		t.Errorf("%d structures are subsumed by both; %d subsume the other one, %d do not", below, above, apart)
	}
}

// P11.2, P11.6
func TestAllOrders(t *testing.T) {
	h := diamond(t)
	r := rand.New(rand.NewSource(43))
	count := make(map[bool]int)
	for i := range 2000 {
		var l []api.FS
		z := random(t, r, 6)
		for range r.Intn(6) {
			f := relaxed(t, r, h, z)
			if r.Intn(2+3*(i%2)) == 0 {
				f = random(t, r, 3)
			}
			l = append(l, f)
		}
		want, is := graph.Atom(top), true
		for _, f := range l {
			if is {
				want, is = unified(t, h, want, f)
			}
		}
		count[is]++
		for range 4 {
			got, ok := unify.All(h, l)
			if ok != is || show(got) != show(want) {
				t.Fatalf("All: %s, %v, not %s, %v", show(got), ok, show(want), is)
			}
			k := r.Intn(len(l) + 1)
			first, ok1 := unify.All(h, l[:k])
			second, ok2 := unify.All(h, l[k:])
			if ok1 && ok2 {
				both, ok := unify.Unify(h, first, second)
				if ok != is || show(both) != show(want) {
					t.Fatalf("Unify of All of %d and of %d elements: %s, %v, not %s, %v", k, len(l)-k, show(both), ok, show(want), is)
				}
			} else if is {
				t.Fatalf("All of %d and of %d elements: %v and %v", k, len(l)-k, ok1, ok2)
			}
			r.Shuffle(len(l), func(i, k int) { l[i], l[k] = l[k], l[i] })
		}
	}
	if count[true] < 500 || count[false] < 250 {
		t.Errorf("unifications that succeed, and not: %v", count)
	}
}

// randomPath returns a path of at most so many features.
func randomPath(r *rand.Rand, most int) []int {
	p := make([]int, r.Intn(most+1))
	for i := range p {
		p[i] = r.Intn(feats)
	}
	return p
}

// P11.3, P11.8
func TestAtAll(t *testing.T) {
	h := diamond(t)
	r := rand.New(rand.NewSource(44))
	count := make(map[bool]int)
	for range 4000 {
		f, g, p := random(t, r, 6), random(t, r, 3), randomPath(r, 4)
		got, ok := unify.At(h, f, p, g)
		want, is := unified(t, h, f, path.Under(p, g))
		if ok != is || show(got) != show(want) {
			t.Fatalf("At of %s, %v and %s: %s, %v, not %s, %v", show(f), p, show(g), show(got), ok, show(want), is)
		}
		if ok {
			part, is := path.Get(got, p)
			if !is || !subsume.Subsumes(h, f, got) || !subsume.Subsumes(h, g, part) {
				t.Fatalf("At of %s, %v and %s: %s", show(f), p, show(g), show(got))
			}
		}
		count[ok]++
	}
	if count[true] < 1500 || count[false] < 300 {
		t.Errorf("unifications that succeed, and not: %v", count)
	}
}

// equationOf follows the definition of the equation of two paths.
func equationOf(t *testing.T, h api.Hierarchy, p, q []int) api.FS {
	t.Helper()
	beginnings := [][]int{{}}
	place := func(l []int) int {
		return slices.IndexFunc(beginnings, func(x []int) bool { return slices.Equal(x, l) })
	}
	var nodes []api.Node
	for _, l := range [][]int{p, q} {
		for k := range l {
			if place(l[:k+1]) < 0 {
				beginnings = append(beginnings, l[:k+1])
			}
		}
	}
	for _, l := range beginnings {
		var n api.Node
		for feat := range feats {
			if to := place(append(slices.Clone(l), feat)); to >= 0 {
				n.Arcs = append(n.Arcs, api.Arc{Feat: feat, To: to})
			}
		}
		nodes = append(nodes, n)
	}
	f, ok := classGraph(h, nodes, relation(nodes, place(p), place(q)))
	if !ok {
		t.Fatalf("the equation of %v and %v", p, q)
	}
	return canon(t, f)
}

// P11.4
func TestAllEquations(t *testing.T) {
	h := diamond(t)
	r := rand.New(rand.NewSource(45))
	for range 3000 {
		p, q := randomPath(r, 7), randomPath(r, 7)
		if r.Intn(2) == 0 {
			k := r.Intn(len(p) + 1)
			q = slices.Concat(p[:k], randomPath(r, 3))
		}
		want := show(equationOf(t, h, p, q))
		for _, l := range [][][]int{{p, q}, {q, p}} {
			if f, ok := unify.Equate(h, graph.Atom(top), l[0], l[1]); !ok || show(f) != want {
				t.Fatalf("the equation of %v and %v: %s, %v, not %s", l[0], l[1], show(f), ok, want)
			}
		}
		f, ok := unify.Equate(h, graph.Atom(top), p, p)
		if !ok || !graph.Equal(f, path.Under(p, graph.Atom(top))) {
			t.Fatalf("the equation of %v with itself: %s, %v", p, show(f), ok)
		}
	}
}

// holds reports whether two paths lead to one node.
func holds(f api.FS, p, q []int) bool {
	n, ok := path.At(f, p)
	k, is := path.At(f, q)
	return ok && is && n == k
}

// P11.4, P11.9
func TestEquateAll(t *testing.T) {
	h := diamond(t)
	r := rand.New(rand.NewSource(46))
	count := make(map[bool]int)
	below := 0
	for range 5000 {
		z, p, q := random(t, r, 5), randomPath(r, 3), randomPath(r, 3)
		f := z
		if r.Intn(2) == 0 {
			f = relaxed(t, r, h, z)
			there := path.First(f)
			p, q = there[r.Intn(len(there))], there[r.Intn(len(there))]
		}
		got, ok := unify.Equate(h, f, p, q)
		want, is := unified(t, h, f, equationOf(t, h, p, q))
		if ok != is || show(got) != show(want) {
			t.Fatalf("Equate of %s, %v and %v: %s, %v, not %s, %v", show(f), p, q, show(got), ok, show(want), is)
		}
		if ok && (!holds(got, p, q) || !subsume.Subsumes(h, f, got)) {
			t.Fatalf("Equate of %s, %v and %v: %s", show(f), p, q, show(got))
		}
		if holds(z, p, q) {
			below++
			if !ok || !subsume.Subsumes(h, got, z) {
				t.Fatalf("Equate of %s, %v and %v: %s, %v; %s is below", show(f), p, q, show(got), ok, show(z))
			}
		}
		count[ok]++
	}
	if count[true] < 1500 || count[false] < 150 || below < 500 {
		t.Errorf("unifications that succeed, and not: %v; %d are in a given structure", count, below)
	}
}
