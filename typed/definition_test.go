package typed_test

import (
	"math/rand"
	"slices"
	"strconv"
	"testing"

	"grammarlab/api"
	"grammarlab/approp"
	"grammarlab/graph"
	"grammarlab/hier"
	"grammarlab/subsume"
	"grammarlab/typed"
	"grammarlab/unify"
)

// randomHierarchy returns a hierarchy with a few types and features, which types below their first one may give more specific values.
func randomHierarchy(r *rand.Rand, acyclic bool) api.Hierarchy {
	for {
		l := []api.TypeDecl{{Name: "top"}}
		size := 4 + r.Intn(4)
		name := func(i int) string {
			if i == 0 {
				return "top"
			}
			return "t" + strconv.Itoa(i)
		}
		for i := 1; i < size; i++ {
			d := api.TypeDecl{Name: name(i)}
			for _, k := range r.Perm(i)[:1+r.Intn(min(i, 2))] {
				d.Supers = append(d.Supers, name(k))
			}
			l = append(l, d)
		}
		for k := range 3 {
			intro := r.Intn(size)
			feat := "F" + strconv.Itoa(k)
			l[intro].Feats = append(l[intro].Feats, api.FeatDecl{Feat: feat, Value: name(r.Intn(size))})
			for i := intro + 1; i < size; i++ {
				if r.Intn(3) == 0 {
					l[i].Feats = append(l[i].Feats, api.FeatDecl{Feat: feat, Value: name(r.Intn(size))})
				}
			}
		}
		// Many of these declarations are not accepted.
		if h, e := hier.Compile(l); e == api.OK && (!acyclic || isAcyclic(h)) {
			return h
		}
	}
}

// isAcyclic is what decides whether Total may succeed.
func isAcyclic(h api.Hierarchy) bool {
	var values [][]api.Approp
	for _, x := range h.Types {
		values = append(values, x.Feats)
	}
	return approp.Acyclic(values)
}

// random returns a feature structure of at most so many nodes, which may be cyclic; most of its types are general.
func random(t *testing.T, r *rand.Rand, h api.Hierarchy, most int) api.FS {
	t.Helper()
	f := api.FS{Nodes: make([]api.Node, 1+r.Intn(most))}
	for i := range f.Nodes {
		if r.Intn(3) == 0 {
			f.Nodes[i].Type = r.Intn(len(h.Types))
		}
		for feat := range h.Feats {
			if r.Intn(2) == 0 {
				f.Nodes[i].Arcs = append(f.Nodes[i].Arcs, api.Arc{Feat: feat, To: r.Intn(len(f.Nodes))})
			}
		}
	}
	return canon(t, f)
}

func canon(t *testing.T, f api.FS) api.FS {
	t.Helper()
	f, e := graph.Canon(f)
	if e != api.OK {
		t.Fatal(e)
	}
	return f
}

// relaxed returns a feature structure that subsumes f: a node is divided, some types are replaced by supertypes, and some arcs are dropped.
func relaxed(t *testing.T, r *rand.Rand, h api.Hierarchy, f api.FS) api.FS {
	t.Helper()
	var g api.FS
	for _, n := range f.Nodes {
		g.Nodes = append(g.Nodes, api.Node{Type: n.Type, Arcs: slices.Clone(n.Arcs)})
	}
	if n := g.Nodes[r.Intn(len(g.Nodes))]; len(n.Arcs) > 0 {
		arc := &n.Arcs[r.Intn(len(n.Arcs))]
		twin := g.Nodes[arc.To]
		arc.To = len(g.Nodes)
		g.Nodes = append(g.Nodes, api.Node{Type: twin.Type, Arcs: slices.Clone(twin.Arcs)})
	}
	for i, n := range g.Nodes {
		if l := h.Types[n.Type].Supers; len(l) > 0 && r.Intn(2) == 0 {
			g.Nodes[i].Type = l[r.Intn(len(l))]
		}
		if len(n.Arcs) > 0 && r.Intn(5) == 0 {
			k := r.Intn(len(n.Arcs))
			g.Nodes[i].Arcs = slices.Delete(n.Arcs, k, k+1)
		}
	}
	return canon(t, g)
}

// wellTyped follows the definition, with the declared values of the types.
func wellTyped(h api.Hierarchy, nodes []api.Node) bool {
	for _, n := range nodes {
		for _, a := range n.Arcs {
			k := slices.IndexFunc(h.Types[n.Type].Feats, func(x api.Approp) bool { return x.Feat == a.Feat })
			if k < 0 || !hier.Subsumes(h, h.Types[n.Type].Feats[k].Value, nodes[a.To].Type) {
				return false
			}
		}
	}
	return true
}

// typings calls a function with each well-typing of a feature structure.
func typings(h api.Hierarchy, f api.FS, visit func(types []int)) {
	nodes := slices.Clone(f.Nodes)
	types := make([]int, len(nodes))
	var choose func(n int)
	choose = func(n int) {
		if n == len(nodes) {
			if wellTyped(h, nodes) {
				visit(types)
			}
			return
		}
		for t := range h.Types {
			if hier.Subsumes(h, f.Nodes[n].Type, t) {
				nodes[n].Type, types[n] = t, t
				choose(n + 1)
			}
		}
	}
	choose(0)
}

// inferred follows the definition: the types of the most general well-typing.
func inferred(t *testing.T, h api.Hierarchy, f api.FS) (api.FS, bool) {
	t.Helper()
	var all [][]int
	typings(h, f, func(types []int) { all = append(all, slices.Clone(types)) })
	if len(all) == 0 {
		return api.FS{}, false
	}
	for _, types := range all {
		below := func(other []int) bool {
			for n := range types {
				if !hier.Subsumes(h, types[n], other[n]) {
					return false
				}
			}
			return true
		}
		if !slices.ContainsFunc(all, func(other []int) bool { return !below(other) }) {
			g := api.FS{Nodes: slices.Clone(f.Nodes)}
			for n := range types {
				g.Nodes[n].Type = types[n]
			}
			return g, true
		}
	}
	t.Fatalf("%s has no most general well-typing", show(h, f))
	return api.FS{}, false
}

// same reports whether two results of a call that may fail are equal.
func same(f api.FS, ok bool, g api.FS, is bool) bool {
	return ok == is && graph.Equal(f, g)
}

// P14.1
func TestCheckAll(t *testing.T) {
	r := rand.New(rand.NewSource(71))
	count := make(map[api.Errno]int)
	for range 1000 {
		h := randomHierarchy(r, false)
		for range 20 {
			f := random(t, r, h, 4)
			if r.Intn(2) == 0 {
				if g, ok := typed.Infer(h, f); ok {
					f = g
				}
			}
			if r.Intn(4) == 0 {
				f.Nodes[r.Intn(len(f.Nodes))].Type = r.Intn(len(h.Types))
			}
			want := api.OK
			for _, n := range f.Nodes {
				for _, a := range n.Arcs {
					v, ok := hier.Value(h, n.Type, a.Feat)
					switch {
					case want != api.OK:
					case !ok:
						want = api.ErrIntro
					case !hier.Subsumes(h, v, f.Nodes[a.To].Type):
						want = api.ErrValue
					}
				}
			}
			if e := typed.Check(h, f); e != want || (e == api.OK) != wellTyped(h, f.Nodes) {
				t.Fatalf("Check of %s: %v, not %v", show(h, f), e, want)
			}
			count[want]++
		}
	}
	if count[api.OK] < 5000 || count[api.ErrIntro] < 2000 || count[api.ErrValue] < 500 {
		t.Errorf("%v", count)
	}
}

// P14.2, P14.6, P14.7
func TestDefinition(t *testing.T) {
	r := rand.New(rand.NewSource(72))
	count := make(map[bool]int)
	changed, below := 0, 0
	for range 500 {
		h := randomHierarchy(r, false)
		for range 20 {
			f := random(t, r, h, 4)
			got, ok := typed.Infer(h, f)
			want, is := inferred(t, h, f)
			if !same(got, ok, want, is) {
				t.Fatalf("Infer of %s: %s, %v, not %s, %v", show(h, f), show(h, got), ok, show(h, want), is)
			}
			count[ok]++
			if !ok {
				continue
			}
			if e := typed.Check(h, got); e != api.OK || !subsume.Subsumes(h, f, got) {
				t.Fatalf("Infer of %s: %s, %v", show(h, f), show(h, got), e)
			}
			if again, ok := typed.Infer(h, got); !ok || !graph.Equal(again, got) {
				t.Fatalf("Infer of %s: %s, %v", show(h, got), show(h, again), ok)
			}
			if !graph.Equal(f, got) {
				changed++
			}
			// What is subsumed by f and is well typed is subsumed by the result too.
			g, is := typed.Infer(h, random(t, r, h, 4))
			if !is {
				continue
			}
			below++
			for _, x := range []api.FS{relaxed(t, r, h, g), f} {
				if !subsume.Subsumes(h, x, g) {
					continue
				}
				if y, ok := typed.Infer(h, x); !ok || !subsume.Subsumes(h, y, g) {
					t.Fatalf("Infer of %s, which subsumes %s: %s, %v", show(h, x), show(h, g), show(h, y), ok)
				}
			}
		}
	}
	if count[true] < 3000 || count[false] < 1000 || changed < 2000 || below < 2000 {
		t.Errorf("inferences that succeed, and not: %v; %d changed; %d well typed structures", count, changed, below)
	}
}

// P14.3, P14.6, P14.8
func TestUnifyAll(t *testing.T) {
	r := rand.New(rand.NewSource(73))
	count := make(map[bool]int)
	below := 0
	for range 1000 {
		h := randomHierarchy(r, false)
		for range 10 {
			z, typable := typed.Infer(h, random(t, r, h, 4))
			f, g := random(t, r, h, 3), random(t, r, h, 3)
			if typable && r.Intn(2) == 0 {
				f, g = relaxed(t, r, h, z), relaxed(t, r, h, z)
			}
			got, ok := typed.Unify(h, f, g)
			var want api.FS
			both, is := unify.Unify(h, f, g)
			if is {
				want, is = inferred(t, h, both)
			}
			if !same(got, ok, want, is) {
				t.Fatalf("Unify of %s and %s: %s, %v, not %s, %v", show(h, f), show(h, g), show(h, got), ok, show(h, want), is)
			}
			count[ok]++
			if back, is := typed.Unify(h, g, f); !same(back, is, got, ok) {
				t.Fatalf("Unify of %s and %s: %s, %v, not %s, %v", show(h, g), show(h, f), show(h, back), is, show(h, got), ok)
			}
			first, is := typed.Infer(h, f)
			if !is && ok {
				t.Fatalf("Unify of %s and %s: %s, but the first one cannot be well typed", show(h, f), show(h, g), show(h, got))
			}
			if again, done := typed.Unify(h, first, g); is && !same(again, done, got, ok) {
				t.Fatalf("Unify of Infer of %s and %s: %s, %v, not %s, %v", show(h, f), show(h, g), show(h, again), done, show(h, got), ok)
			}
			if ok && (typed.Check(h, got) != api.OK || !subsume.Subsumes(h, f, got) || !subsume.Subsumes(h, g, got)) {
				t.Fatalf("Unify of %s and %s: %s", show(h, f), show(h, g), show(h, got))
			}
			if typable && subsume.Subsumes(h, f, z) && subsume.Subsumes(h, g, z) {
				below++
				if !ok || !subsume.Subsumes(h, got, z) {
					t.Fatalf("Unify of %s and %s: %s, %v; %s is below", show(h, f), show(h, g), show(h, got), ok, show(h, z))
				}
			}
		}
	}
	if count[true] < 4000 || count[false] < 2000 || below < 2000 {
		t.Errorf("unifications that succeed, and not: %v; %d with a structure below", count, below)
	}
}

// P14.8: the grouping of three.
func TestGrouping(t *testing.T) {
	r := rand.New(rand.NewSource(74))
	count := make(map[bool]int)
	for range 1000 {
		h := randomHierarchy(r, false)
		for range 10 {
			l := []api.FS{random(t, r, h, 2), random(t, r, h, 2), random(t, r, h, 2)}
			if z, ok := typed.Infer(h, random(t, r, h, 4)); ok && r.Intn(2) == 0 {
				l = []api.FS{relaxed(t, r, h, z), relaxed(t, r, h, z), relaxed(t, r, h, z)}
			}
			group := func(i, k, m int) (api.FS, bool) {
				f, ok := typed.Unify(h, l[i], l[k])
				if ok {
					f, ok = typed.Unify(h, f, l[m])
				}
				return f, ok
			}
			want, is := group(0, 1, 2)
			count[is]++
			for _, p := range [][]int{{1, 2, 0}, {0, 2, 1}, {2, 0, 1}} {
				if got, ok := group(p[0], p[1], p[2]); !same(got, ok, want, is) {
					t.Fatalf("%s, %s and %s in the order %v: %s, %v, not %s, %v", show(h, l[0]), show(h, l[1]), show(h, l[2]), p, show(h, got), ok, show(h, want), is)
				}
			}
		}
	}
	if count[true] < 4000 || count[false] < 2000 {
		t.Errorf("unifications that succeed, and not: %v", count)
	}
}

// P14.4, P14.6
func TestAtAll(t *testing.T) {
	r := rand.New(rand.NewSource(75))
	count := make(map[bool]int)
	for range 1000 {
		h := randomHierarchy(r, false)
		for range 10 {
			f, g := random(t, r, h, 3), random(t, r, h, 2)
			var p []int
			for range r.Intn(3) {
				p = append(p, r.Intn(len(h.Feats)))
			}
			got, ok := typed.At(h, f, p, g)
			var want api.FS
			at, is := unify.At(h, f, p, g)
			if is {
				want, is = inferred(t, h, at)
			}
			if !same(got, ok, want, is) {
				t.Fatalf("At of %s, %v and %s: %s, %v, not %s, %v", show(h, f), p, show(h, g), show(h, got), ok, show(h, want), is)
			}
			count[ok]++
		}
	}
	if count[true] < 3000 || count[false] < 2000 {
		t.Errorf("unifications that succeed, and not: %v", count)
	}
}

// completed follows the definition: a node and a feature that it lacks are chosen at random, as long as there are some. It gives up at a size.
func completed(t *testing.T, r *rand.Rand, h api.Hierarchy, f api.FS, most int) (api.FS, bool) {
	t.Helper()
	g := api.FS{Nodes: slices.Clone(f.Nodes)}
	for len(g.Nodes) <= most {
		type place struct {
			node int
			x    api.Approp
		}
		var lacking []place
		for n, node := range g.Nodes {
			for _, x := range h.Types[node.Type].Feats {
				if !slices.ContainsFunc(node.Arcs, func(a api.Arc) bool { return a.Feat == x.Feat }) {
					lacking = append(lacking, place{node: n, x: x})
				}
			}
		}
		if len(lacking) == 0 {
			return canon(t, g), true
		}
		p := lacking[r.Intn(len(lacking))]
		arcs := append(slices.Clone(g.Nodes[p.node].Arcs), api.Arc{Feat: p.x.Feat, To: len(g.Nodes)})
		g.Nodes[p.node].Arcs = arcs
		g.Nodes = append(g.Nodes, api.Node{Type: p.x.Value})
	}
	return api.FS{}, false
}

// P14.5, P14.6, P14.9
func TestTotalAll(t *testing.T) {
	r := rand.New(rand.NewSource(76))
	count := make(map[api.Errno]int)
	for i := range 1000 {
		h := randomHierarchy(r, i%2 == 0)
		for range 10 {
			f := random(t, r, h, 4)
			got, e := typed.Total(h, f)
			count[e]++
			want, ok := inferred(t, h, f)
			if e != api.OK && got.Nodes != nil {
				t.Fatalf("Total of %s: %v and %s", show(h, f), e, show(h, got))
			}
			if !ok || !isAcyclic(h) {
				is := api.ErrCycle
				if !ok {
					is = api.ErrClash
				}
				if e != is {
					t.Fatalf("Total of %s: %v, not %v", show(h, f), e, is)
				}
				continue
			}
			inner := want
			if want, ok = completed(t, r, h, inner, 1000); !ok {
				continue
			}
			if e != api.OK || !graph.Equal(got, want) {
				t.Fatalf("Total of %s: %s, %v, not %s", show(h, f), show(h, got), e, show(h, want))
			}
			if typed.Check(h, got) != api.OK || !subsume.Subsumes(h, inner, got) {
				t.Fatalf("Total of %s: %s", show(h, f), show(h, got))
			}
			for _, n := range got.Nodes {
				if len(n.Arcs) != len(h.Types[n.Type].Feats) {
					t.Fatalf("Total of %s: %s", show(h, f), show(h, got))
				}
			}
			if again, e := typed.Total(h, got); e != api.OK || !graph.Equal(again, got) {
				t.Fatalf("Total of %s: %s, %v", show(h, got), show(h, again), e)
			}
		}
	}
	if count[api.OK] < 2000 || count[api.ErrClash] < 1000 || count[api.ErrCycle] < 1000 {
		t.Errorf("%v", count)
	}
}
