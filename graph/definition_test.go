package graph_test

import (
	"math/rand"
	"slices"
	"testing"

	"grammarlab/api"
	"grammarlab/graph"
)

// random returns graphs of many shapes that Canon accepts: trees, graphs with sharing and with cycles, and with nodes that are not reachable.
func random(n int) []api.FS {
	r := rand.New(rand.NewSource(7))
	var l []api.FS
	for i := range n {
		size := 1 + r.Intn(1+i%12)
		f := api.FS{Nodes: make([]api.Node, size)}
		order := r.Perm(size)
		order[slices.Index(order, 0)], order[0] = order[0], 0
		reached := r.Intn(4) > 0
		for k := range f.Nodes {
			f.Nodes[k].Type = r.Intn(3)
			if reached && k > 0 {
				addArc(r, f, order[r.Intn(k)], order[k])
			}
		}
		for range r.Intn(size + 1) {
			from, to := r.Intn(size), r.Intn(size)
			if i%2 == 0 && from != to { // without cycles
				from, to = order[min(slices.Index(order, from), slices.Index(order, to))], order[max(slices.Index(order, from), slices.Index(order, to))]
			}
			if i%2 == 1 || from != to {
				addArc(r, f, from, to)
			}
		}
		l = append(l, f)
	}
	return l
}

// addArc adds an arc with a new feature to a node.
func addArc(r *rand.Rand, f api.FS, from, to int) {
	arcs := f.Nodes[from].Arcs
	for {
		feat := r.Intn(2 + 2*len(arcs))
		if !slices.ContainsFunc(arcs, func(a api.Arc) bool { return a.Feat == feat }) {
			f.Nodes[from].Arcs = append(arcs, api.Arc{Feat: feat, To: to})
			return
		}
	}
}

// canonical follows the definition of the canonical form, from the node root.
func canonical(f api.FS, root int) api.FS {
	var order []int
	var visit func(n int)
	sorted := func(n int) []api.Arc {
		arcs := slices.Clone(f.Nodes[n].Arcs)
		slices.SortFunc(arcs, func(a, b api.Arc) int { return a.Feat - b.Feat })
		return arcs
	}
	visit = func(n int) {
		order = append(order, n)
		for _, a := range sorted(n) {
			if !slices.Contains(order, a.To) {
				visit(a.To)
			}
		}
	}
	visit(root)
	var g api.FS
	for _, n := range order {
		x := api.Node{Type: f.Nodes[n].Type}
		for _, a := range sorted(n) {
			x.Arcs = append(x.Arcs, api.Arc{Feat: a.Feat, To: slices.Index(order, a.To)})
		}
		g.Nodes = append(g.Nodes, x)
	}
	return g
}

// cyclic follows the definition: it looks for a node that can be reached from itself by one or more arcs.
func cyclic(f api.FS) bool {
	for n := range f.Nodes {
		reached := make([]bool, len(f.Nodes))
		var reach func(k int)
		reach = func(k int) {
			for _, a := range f.Nodes[k].Arcs {
				if !reached[a.To] {
					reached[a.To] = true
					reach(a.To)
				}
			}
		}
		reach(n)
		if reached[n] {
			return true
		}
	}
	return false
}

// numbers returns what Compare compares, one after the other.
func numbers(f api.FS) []int {
	l := []int{len(f.Nodes)}
	for _, n := range f.Nodes {
		l = append(l, n.Type, len(n.Arcs))
		for _, a := range n.Arcs {
			l = append(l, a.Feat, a.To)
		}
	}
	return l
}

// disguised returns the same feature structure as a graph with another order of arcs and nodes, and with nodes that are not reachable.
func disguised(r *rand.Rand, f api.FS) api.FS {
	spare := r.Intn(4)
	size := len(f.Nodes) + spare
	place := append([]int{0}, r.Perm(size-1)...)
	for i := range place[1:] {
		place[i+1]++
	}
	g := api.FS{Nodes: make([]api.Node, size)}
	for i, n := range f.Nodes {
		x := api.Node{Type: n.Type}
		for _, k := range r.Perm(len(n.Arcs)) {
			x.Arcs = append(x.Arcs, api.Arc{Feat: n.Arcs[k].Feat, To: place[n.Arcs[k].To]})
		}
		g.Nodes[place[i]] = x
	}
	for i := range spare {
		k := place[len(f.Nodes)+i]
		g.Nodes[k].Type = r.Intn(4)
		for range r.Intn(3) {
			addArc(r, g, k, r.Intn(size))
		}
	}
	return g
}

// P7.2, P7.4, P7.5, P7.10
func TestDefinitions(t *testing.T) {
	cycles := 0
	for _, x := range random(4000) {
		f, e := graph.Canon(x)
		if e != api.OK || show(f) != show(canonical(x, 0)) {
			t.Fatalf("Canon of %s: %s, %v", show(x), show(f), e)
		}
		round := graph.Cyclic(f)
		if round != cyclic(f) {
			t.Fatalf("Cyclic of %s: %v", show(f), round)
		}
		if round {
			cycles++
		}
		for n := range f.Nodes {
			s := graph.Sub(f, n)
			if show(s) != show(canonical(f, n)) {
				t.Fatalf("Sub of %s at %d: %s", show(f), n, show(s))
			}
			if n == 0 && show(s) != show(f) {
				t.Fatalf("Sub of %s at the root: %s", show(f), show(s))
			}
			if len(s.Nodes) > len(f.Nodes) || !round && (graph.Cyclic(s) || n > 0 && len(s.Nodes) == len(f.Nodes)) {
				t.Fatalf("Sub of %s at %d: %s", show(f), n, show(s))
			}
		}
	}
	if cycles < 500 || cycles > 3500 {
		t.Fatalf("%d of the graphs are cyclic", cycles)
	}
}

// P7.8, P7.9, R11
func TestCanonical(t *testing.T) {
	r := rand.New(rand.NewSource(8))
	h := api.Hierarchy{Types: make([]api.Type, 9), Feats: make([]api.Feature, 99)}
	for _, x := range random(2000) {
		f, _ := graph.Canon(x)
		if again, e := graph.Canon(f); e != api.OK || !graph.Equal(again, f) {
			t.Fatalf("Canon of %s: %s, %v", show(f), show(again), e)
		}
		if e := graph.Check(h, f); e != api.OK {
			t.Fatalf("Check of %s: %v", show(f), e)
		}
		if e := graph.Check(h, x); (e == api.OK) != graph.Equal(x, f) || e != api.OK && e != api.ErrOrder {
			t.Fatalf("Check of %s: %v", show(x), e)
		}
		for range 3 {
			g := disguised(r, f)
			if again, e := graph.Canon(g); e != api.OK || show(again) != show(f) {
				t.Fatalf("Canon of %s: %s, %v", show(g), show(again), e)
			}
		}
		for n := 1; n < len(f.Nodes); n++ {
			leads := func(x api.Node) bool {
				return slices.ContainsFunc(x.Arcs, func(a api.Arc) bool { return a.To == n })
			}
			if !slices.ContainsFunc(f.Nodes[:n], leads) {
				t.Fatalf("node %d of %s", n, show(f))
			}
		}
	}
}

// P7.6, P7.7, P7.11
func TestOrder(t *testing.T) {
	l := random(120)
	for i, a := range l {
		for _, b := range l {
			c := graph.Compare(a, b)
			if c != slices.Compare(numbers(a), numbers(b)) || c != -graph.Compare(b, a) || graph.Equal(a, b) != (c == 0) || (c == 0) != (show(a) == show(b)) {
				t.Fatalf("Compare of %s and %s: %d", show(a), show(b), c)
			}
			for _, x := range l[:i] {
				if c < 0 && graph.Compare(b, x) < 0 && graph.Compare(a, x) >= 0 {
					t.Fatalf("the order of %s, %s and %s", show(a), show(b), show(x))
				}
			}
		}
	}
}
