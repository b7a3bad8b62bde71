package quasi_test

import (
	"math/rand"
	"slices"
	"testing"

	"grammarlab/api"
	"grammarlab/graph"
	"grammarlab/hier"
	"grammarlab/quasi"
	"grammarlab/trail"
	"grammarlab/unify"
)

// feats is how many features the random structures have.
const feats = 3

// canon returns the canonical form of a graph that has one.
func canon(t *testing.T, f api.FS) api.FS {
	t.Helper()
	f, e := graph.Canon(f)
	if e != api.OK {
		t.Fatal(e)
	}
	return f
}

// random returns a feature structure of at most so many nodes, which may be cyclic.
func random(t *testing.T, r *rand.Rand, most int) api.FS {
	t.Helper()
	size := 1 + r.Intn(most)
	types := [][]int{{top, a, b}, {top, a, b, ab, c, c, d, d}, {c, c, d}}[r.Intn(3)]
	f := api.FS{Nodes: make([]api.Node, size)}
	for i := range f.Nodes {
		f.Nodes[i].Type = types[r.Intn(len(types))]
		for feat := range feats {
			if r.Intn(2) == 0 {
				f.Nodes[i].Arcs = append(f.Nodes[i].Arcs, api.Arc{Feat: feat, To: r.Intn(size)})
			}
		}
	}
	return canon(t, f)
}

// relaxed returns a feature structure that subsumes f: some nodes are divided, some types are replaced by supertypes, and some arcs are dropped.
func relaxed(t *testing.T, r *rand.Rand, h api.Hierarchy, f api.FS) api.FS {
	t.Helper()
	var g api.FS
	for _, n := range f.Nodes {
		g.Nodes = append(g.Nodes, api.Node{Type: n.Type, Arcs: slices.Clone(n.Arcs)})
	}
	for range r.Intn(4) {
		n := g.Nodes[r.Intn(len(g.Nodes))]
		if len(n.Arcs) > 0 {
			arc := &n.Arcs[r.Intn(len(n.Arcs))]
			twin := g.Nodes[arc.To]
			arc.To = len(g.Nodes)
			g.Nodes = append(g.Nodes, api.Node{Type: twin.Type, Arcs: slices.Clone(twin.Arcs)})
		}
	}
	for i, n := range g.Nodes {
		if l := h.Types[n.Type].Supers; len(l) > 0 && r.Intn(3) == 0 {
			g.Nodes[i].Type = l[r.Intn(len(l))]
		}
		if len(n.Arcs) > 0 && r.Intn(5) == 0 {
			k := r.Intn(len(n.Arcs))
			g.Nodes[i].Arcs = slices.Delete(n.Arcs, k, k+1)
		}
	}
	return canon(t, g)
}

// target returns the node to which an arc of a node leads, or -1.
func target(n api.Node, feat int) int {
	for _, arc := range n.Arcs {
		if arc.Feat == feat {
			return arc.To
		}
	}
	return -1
}

// relation follows the definition: the least equivalence relation that contains a pair of nodes and is closed under features. It gives a number to the class of each node.
func relation(nodes []api.Node, x, y int) []int {
	class := make([]int, len(nodes))
	for n := range class {
		class[n] = n
	}
	equate := func(x, y int) bool {
		from, to := class[x], class[y]
		for n, k := range class {
			if k == from {
				class[n] = to
			}
		}
		return from != to
	}
	for more := equate(x, y); more; {
		more = false
		for n := range nodes {
			for k := range n {
				for feat := range 64 {
					v, w := target(nodes[n], feat), target(nodes[k], feat)
					if class[n] == class[k] && v >= 0 && w >= 0 && equate(v, w) {
						more = true
					}
				}
			}
		}
	}
	return class
}

// classType follows the definition: the most general one of the types that all types of some nodes subsume.
func classType(h api.Hierarchy, types []int) (int, bool) {
	var below []int
	for t := range h.Types {
		if !slices.ContainsFunc(types, func(s int) bool { return !hier.Subsumes(h, s, t) }) {
			below = append(below, t)
		}
	}
	for _, t := range below {
		if !slices.ContainsFunc(below, func(s int) bool { return !hier.Subsumes(h, t, s) }) {
			return t, true
		}
	}
	return 0, false
}

// classGraph follows the definition of the graph of the classes of a relation, whose root is the class of the node 0.
func classGraph(h api.Hierarchy, nodes []api.Node, class []int) (api.FS, bool) {
	numbers := []int{class[0]}
	for _, k := range class {
		if !slices.Contains(numbers, k) {
			numbers = append(numbers, k)
		}
	}
	var f api.FS
	for _, number := range numbers {
		var types []int
		var n api.Node
		for k, x := range nodes {
			if class[k] != number {
				continue
			}
			types = append(types, x.Type)
			for _, arc := range x.Arcs {
				to := slices.Index(numbers, class[arc.To])
				if target(n, arc.Feat) < 0 {
					n.Arcs = append(n.Arcs, api.Arc{Feat: arc.Feat, To: to})
				}
			}
		}
		var ok bool
		if n.Type, ok = classType(h, types); !ok {
			return api.FS{}, false
		}
		f.Nodes = append(f.Nodes, n)
	}
	return f, true
}

// unified follows the definition of the unification.
func unified(t *testing.T, h api.Hierarchy, f, g api.FS) (api.FS, bool) {
	t.Helper()
	nodes := slices.Clone(f.Nodes)
	for _, n := range g.Nodes {
		moved := api.Node{Type: n.Type}
		for _, arc := range n.Arcs {
			moved.Arcs = append(moved.Arcs, api.Arc{Feat: arc.Feat, To: arc.To + len(f.Nodes)})
		}
		nodes = append(nodes, moved)
	}
	u, ok := classGraph(h, nodes, relation(nodes, 0, len(f.Nodes)))
	if !ok {
		return api.FS{}, false
	}
	return canon(t, u), true
}

// pooled is the feature structures that a pool should have.
type pooled struct {
	h    api.Hierarchy
	pool *quasi.Pool
	l    []api.FS
}

// check compares all numbers of the pool, and its size, with what they should be.
func (x *pooled) check(t *testing.T, what string) {
	t.Helper()
	most := 0
	for n, want := range x.l {
		if f, ok := x.pool.Read(n); !ok || show(f) != show(want) {
			t.Fatalf("Read of %d after %s: %s, %v, not %s", n, what, show(f), ok, show(want))
		}
		most = max(most, len(want.Nodes))
	}
	if f, ok := x.pool.Read(len(x.l)); ok || f.Nodes != nil {
		t.Fatalf("Read of %d after %s: %s, %v", len(x.l), what, show(f), ok)
	}
	if x.pool.Size() < most {
		t.Fatalf("Size after %s: %d, but a structure has %d nodes", what, x.pool.Size(), most)
	}
}

func (x *pooled) put(t *testing.T, f api.FS) {
	t.Helper()
	size := x.pool.Size()
	if n := x.pool.Put(f); n != len(x.l) {
		t.Fatalf("Put: %d, not %d", n, len(x.l))
	}
	if grown := x.pool.Size() - size; grown < 0 || grown > len(f.Nodes) {
		t.Fatalf("Put of %s: the size was %d, and is %d", show(f), size, x.pool.Size())
	}
	x.l = append(x.l, f)
	x.check(t, "Put")
}

// unify calls Test and Unify of two numbers, and compares the results with the definition and with the other layers.
func (x *pooled) unify(t *testing.T, a, b int) bool {
	t.Helper()
	var want api.FS
	ok := a >= 0 && b >= 0 && a < len(x.l) && b < len(x.l)
	if ok {
		want, ok = unified(t, x.h, x.l[a], x.l[b])
		x.others(t, x.l[a], x.l[b], want, ok)
	}
	size := x.pool.Size()
	if x.pool.Test(a, b) != ok || x.pool.Test(b, a) != ok || x.pool.Size() != size {
		t.Fatalf("Test of %d and %d is not %v, or changes the size from %d to %d", a, b, ok, size, x.pool.Size())
	}
	n, is := x.pool.Unify(a, b)
	grown := x.pool.Size() - size
	if !ok {
		if n != 0 || is || grown != 0 {
			t.Fatalf("Unify of %d and %d: %d, %v, %d new nodes", a, b, n, is, grown)
		}
		x.check(t, "a Unify that fails")
		return false
	}
	if n != len(x.l) || !is || grown < 0 || grown > len(want.Nodes) {
		t.Fatalf("Unify of %d and %d: %d, %v, %d new nodes; %d structures, %s", a, b, n, is, grown, len(x.l), show(want))
	}
	x.l = append(x.l, want)
	x.check(t, "Unify")
	return true
}

// others checks that the layers 11 and 12 compute the same.
func (x *pooled) others(t *testing.T, f, g, want api.FS, ok bool) {
	t.Helper()
	u, is := unify.Unify(x.h, f, g)
	if is != ok || show(u) != show(want) {
		t.Fatalf("unify.Unify of %s and %s: %s, %v, not %s, %v", show(f), show(g), show(u), is, show(want), ok)
	}
	heap := trail.New(x.h)
	p, q := heap.Load(f), heap.Load(g)
	is = heap.Unify(p, q)
	if u, _ := heap.Read(p); is != ok || ok && show(u) != show(want) {
		t.Fatalf("Unify of %s and %s in a heap: %s, %v, not %s, %v", show(f), show(g), show(u), is, show(want), ok)
	}
}

// P13.1 to P13.9: random calls, whose results are compared with the definitions after each one.
func TestCalls(t *testing.T) {
	h := diamond(t)
	r := rand.New(rand.NewSource(61))
	count := make(map[bool]int)
	for i := range 300 {
		x := &pooled{h: h, pool: quasi.New(h)}
		x.check(t, "New")
		z := random(t, r, 7)
		for range 40 {
			switch k := r.Intn(10); {
			case k == 0:
				x.put(t, random(t, r, 1+i%5))
			case k < 3:
				x.put(t, relaxed(t, r, h, z))
			case k == 3 && len(x.l) > 0: // the same structure once more, without shared nodes
				x.put(t, x.l[r.Intn(len(x.l))])
			default:
				a, b := r.Intn(len(x.l)+1), r.Intn(len(x.l)+1)
				if r.Intn(20) == 0 {
					a = -1 - r.Intn(2)
				}
				count[x.unify(t, a, b)]++
			}
		}
	}
	if count[true] < 3000 || count[false] < 1000 {
		t.Errorf("unifications that succeed, and not: %v", count)
	}
}

// P13.4, P13.6, P13.7: structures that share parts, which stand at different paths in them.
func TestParts(t *testing.T) {
	h := diamond(t)
	r := rand.New(rand.NewSource(62))
	count := make(map[bool]int)
	for i := range 1000 {
		x := &pooled{h: h, pool: quasi.New(h)}
		// Structures with few types and features, most of which unify, and which tie parts of each other.
		for range 3 {
			f := random(t, r, 3+i%4)
			for k := range f.Nodes {
				f.Nodes[k].Type = []int{top, top, top, a, b}[r.Intn(5)]
			}
			x.put(t, f)
		}
		for range 8 {
			count[x.unify(t, r.Intn(len(x.l)), r.Intn(len(x.l)))]++
		}
	}
	if count[true] < 7000 {
		t.Errorf("unifications that succeed, and not: %v", count)
	}
}

// W1, P13.7: neither the order nor the grouping of several ones matters.
func TestGrouping(t *testing.T) {
	h := diamond(t)
	r := rand.New(rand.NewSource(63))
	count := make(map[bool]int)
	for i := range 1500 {
		x := quasi.New(h)
		z := random(t, r, 6)
		var numbers []int
		var l []api.FS
		for range 4 {
			f := relaxed(t, r, h, z)
			if r.Intn(2+2*(i%3)) == 0 {
				f = random(t, r, 3)
			}
			l = append(l, f)
			numbers = append(numbers, x.Put(f))
		}
		want, is := unify.All(h, l)
		count[is]++
		for range 4 {
			// Two of those that remain become one, until one remains.
			wait, ok := slices.Clone(numbers), true
			for len(wait) > 1 && ok {
				r.Shuffle(len(wait), func(i, k int) { wait[i], wait[k] = wait[k], wait[i] })
				var u int
				u, ok = x.Unify(wait[0], wait[1])
				wait = append(wait[2:], u)
			}
			f, _ := x.Read(wait[0])
			if ok != is || ok && show(f) != show(want) {
				t.Fatalf("%s, %v, not %s, %v", show(f), ok, show(want), is)
			}
		}
	}
	if count[true] < 500 || count[false] < 300 {
		t.Errorf("unifications that succeed, and not: %v", count)
	}
}
