package general_test

import (
	"math/rand"
	"slices"
	"testing"

	"grammarlab/api"
	"grammarlab/general"
	"grammarlab/graph"
	"grammarlab/hier"
	"grammarlab/subsume"
)

// feats is how many features the random structures have.
const feats = 3

// canon returns the canonical form of a graph that has one.
func canon(t *testing.T, f api.FS) api.FS {
	t.Helper()
	f, e := graph.Canon(f)
	if e != api.OK {
		t.Fatal(e)
	}
	return f
}

// random returns a feature structure of at most so many nodes, which may be cyclic.
func random(t *testing.T, r *rand.Rand, most int) api.FS {
	t.Helper()
	size := 1 + r.Intn(most)
	f := api.FS{Nodes: make([]api.Node, size)}
	for i := range f.Nodes {
		f.Nodes[i].Type = []int{top, a, b, ab, c, c, d, d}[r.Intn(8)]
		for feat := range feats {
			if r.Intn(2) == 0 {
				f.Nodes[i].Arcs = append(f.Nodes[i].Arcs, api.Arc{Feat: feat, To: r.Intn(size)})
			}
		}
	}
	return canon(t, f)
}

// relaxed returns a feature structure that subsumes f: some nodes are divided, some types are replaced by supertypes, and some arcs are dropped.
func relaxed(t *testing.T, r *rand.Rand, h api.Hierarchy, f api.FS) api.FS {
	t.Helper()
	var g api.FS
	for _, n := range f.Nodes {
		g.Nodes = append(g.Nodes, api.Node{Type: n.Type, Arcs: slices.Clone(n.Arcs)})
	}
	for range r.Intn(3) {
		n := g.Nodes[r.Intn(len(g.Nodes))]
		if len(n.Arcs) > 0 {
			arc := &n.Arcs[r.Intn(len(n.Arcs))]
			twin := g.Nodes[arc.To]
			arc.To = len(g.Nodes)
			g.Nodes = append(g.Nodes, api.Node{Type: twin.Type, Arcs: slices.Clone(twin.Arcs)})
		}
	}
	for i, n := range g.Nodes {
		if l := h.Types[n.Type].Supers; len(l) > 0 && r.Intn(4) == 0 {
			g.Nodes[i].Type = l[r.Intn(len(l))]
		}
		if len(n.Arcs) > 0 && r.Intn(6) == 0 {
			k := r.Intn(len(n.Arcs))
			g.Nodes[i].Arcs = slices.Delete(n.Arcs, k, k+1)
		}
	}
	return canon(t, g)
}

// target returns the node to which an arc of a node leads, or -1.
func target(f api.FS, n, feat int) int {
	for _, arc := range f.Nodes[n].Arcs {
		if arc.Feat == feat {
			return arc.To
		}
	}
	return -1
}

// commonPairs follows the definition: the least set that is closed.
func commonPairs(f, g api.FS) [][2]int {
	l := [][2]int{{0, 0}}
	for i := 0; i < len(l); i++ {
		for feat := range feats {
			p := [2]int{target(f, l[i][0], feat), target(g, l[i][1], feat)}
			if p[0] >= 0 && p[1] >= 0 && !slices.Contains(l, p) {
				l = append(l, p)
			}
		}
	}
	return l
}

// generalized follows the definition of the generalization.
func generalized(t *testing.T, h api.Hierarchy, f, g api.FS) api.FS {
	t.Helper()
	pairs := commonPairs(f, g)
	var out api.FS
	for _, p := range pairs {
		n := api.Node{Type: hier.Join(h, f.Nodes[p[0]].Type, g.Nodes[p[1]].Type)}
		for feat := feats - 1; feat >= 0; feat-- {
			to := [2]int{target(f, p[0], feat), target(g, p[1], feat)}
			if to[0] >= 0 && to[1] >= 0 {
				n.Arcs = append(n.Arcs, api.Arc{Feat: feat, To: slices.Index(pairs, to)})
			}
		}
		out.Nodes = append(out.Nodes, n)
	}
	return canon(t, out)
}

// P10.1, P10.4, R11
func TestDefinition(t *testing.T) {
	h := diamond(t)
	r := rand.New(rand.NewSource(31))
	large := 0
	for i := range 4000 {
		f, g := random(t, r, 1+i%9), random(t, r, 1+i%7)
		got, want := general.Generalize(h, f, g), generalized(t, h, f, g)
		if show(got) != show(want) {
			t.Fatalf("Generalize of %s and %s: %s, not %s", show(f), show(g), show(got), show(want))
		}
		if back := general.Generalize(h, g, f); show(back) != show(got) {
			t.Fatalf("Generalize of %s and %s: %s, not %s", show(g), show(f), show(back), show(got))
		}
		if same := general.Generalize(h, f, f); show(same) != show(f) {
			t.Fatalf("Generalize of %s and itself: %s", show(f), show(same))
		}
		if e := graph.Check(h, got); e != api.OK {
			t.Fatalf("Generalize of %s and %s: %s, %v", show(f), show(g), show(got), e)
		}
		if len(got.Nodes) > max(len(f.Nodes), len(g.Nodes)) {
			large++
		}
	}
	if large < 150 {
		t.Errorf("%d of the generalizations are larger than the arguments", large)
	}
}

// P10.3, P10.5
func TestMostSpecific(t *testing.T) {
	h := diamond(t)
	r := rand.New(rand.NewSource(32))
	count := make(map[bool]int)
	for i := range 3000 {
		f := random(t, r, 5)
		g := random(t, r, 5)
		if i%3 == 0 {
			g = relaxed(t, r, h, f)
		}
		both := general.Generalize(h, f, g)
		if !subsume.Subsumes(h, both, f) || !subsume.Subsumes(h, both, g) {
			t.Fatalf("Generalize of %s and %s: %s", show(f), show(g), show(both))
		}
		if i%3 == 0 && !graph.Equal(both, g) {
			t.Fatalf("Generalize of %s and %s, which subsumes it: %s", show(f), show(g), show(both))
		}
		for _, x := range []api.FS{relaxed(t, r, h, f), relaxed(t, r, h, g), relaxed(t, r, h, both), random(t, r, 2)} {
			want := subsume.Subsumes(h, x, f) && subsume.Subsumes(h, x, g)
			if subsume.Subsumes(h, x, both) != want {
				t.Fatalf("%s, and Generalize of %s and %s: %s", show(x), show(f), show(g), show(both))
			}
			count[want]++
		}
	}
	if count[true] < 1000 || count[false] < 1000 {
		t.Errorf("structures that subsume both, and not: %v", count)
	}
}

// walk gives all paths of a structure of at most so many features, with the nodes to which they lead.
func walk(f api.FS, most int) map[string]int {
	nodes := make(map[string]int)
	var step func(p string, n int)
	step = func(p string, n int) {
		nodes[p] = n
		for _, arc := range f.Nodes[n].Arcs {
			if len(p) < most {
				step(p+string(rune('0'+arc.Feat)), arc.To)
			}
		}
	}
	step("", 0)
	return nodes
}

// P10.6
func TestPaths(t *testing.T) {
	h := diamond(t)
	r := rand.New(rand.NewSource(33))
	tied, apart := 0, 0
	for range 500 {
		f, g := random(t, r, 5), random(t, r, 5)
		both := general.Generalize(h, f, g)
		inF, inG, inBoth := walk(f, 4), walk(g, 4), walk(both, 4)
		for p, n := range inF {
			k, ok := inG[p]
			m, found := inBoth[p]
			if ok != found || ok && both.Nodes[m].Type != hier.Join(h, f.Nodes[n].Type, g.Nodes[k].Type) {
				t.Fatalf("%s of Generalize of %s and %s: %s", p, show(f), show(g), show(both))
			}
		}
		for p, m := range inBoth {
			if _, ok := inF[p]; !ok {
				t.Fatalf("%s of Generalize of %s and %s: %s", p, show(f), show(g), show(both))
			}
			for q, k := range inBoth {
				want := inF[p] == inF[q] && inG[p] == inG[q]
				if (m == k) != want {
					t.Fatalf("%s and %s of Generalize of %s and %s: %s", p, q, show(f), show(g), show(both))
				}
				if p != q && want {
					tied++
				} else if inF[p] == inF[q] {
					apart++
				}
			}
		}
	}
	if tied < 1000 || apart < 1000 {
		t.Errorf("%d paths lead to one node, %d do not", tied, apart)
	}
}

// P10.2, P10.4
func TestAllOrders(t *testing.T) {
	h := diamond(t)
	r := rand.New(rand.NewSource(34))
	for range 800 {
		var l []api.FS
		first := random(t, r, 6)
		for range 1 + r.Intn(4) {
			f := random(t, r, 4)
			if r.Intn(2) == 0 {
				f = relaxed(t, r, h, first)
			}
			l = append(l, f)
		}
		want := l[0]
		for _, f := range l[1:] {
			want = generalized(t, h, want, f)
		}
		for range 4 {
			if got, ok := general.All(h, l); !ok || show(got) != show(want) {
				t.Fatalf("All: %s, %v, not %s", show(got), ok, show(want))
			}
			r.Shuffle(len(l), func(i, k int) { l[i], l[k] = l[k], l[i] })
		}
	}
}
