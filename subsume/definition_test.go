package subsume_test

import (
	"math/rand"
	"slices"
	"testing"

	"grammarlab/api"
	"grammarlab/graph"
	"grammarlab/hier"
	"grammarlab/subsume"
)

// feats is how many features the random structures have.
const feats = 3

// canon returns the canonical form of a graph that has one.
func canon(t *testing.T, f api.FS) api.FS {
	t.Helper()
	f, e := graph.Canon(f)
	if e != api.OK {
		t.Fatal(e)
	}
	return f
}

// random returns a feature structure of at most so many nodes, which may be cyclic.
func random(t *testing.T, r *rand.Rand, most int) api.FS {
	t.Helper()
	size := 1 + r.Intn(most)
	f := api.FS{Nodes: make([]api.Node, size)}
	for i := range f.Nodes {
		f.Nodes[i].Type = []int{top, top, a, b, ab, c, d}[r.Intn(7)]
		for feat := range feats {
			if r.Intn(5) < 2 {
				f.Nodes[i].Arcs = append(f.Nodes[i].Arcs, api.Arc{Feat: feat, To: r.Intn(size)})
			}
		}
	}
	return canon(t, f)
}

// relaxed returns a feature structure that subsumes f: some nodes are divided, some types are replaced by supertypes, and some arcs are dropped.
func relaxed(t *testing.T, r *rand.Rand, h api.Hierarchy, f api.FS) api.FS {
	t.Helper()
	divide, raise, drop := r.Intn(2), r.Intn(2), r.Intn(2)
	var g api.FS
	for _, n := range f.Nodes {
		g.Nodes = append(g.Nodes, api.Node{Type: n.Type, Arcs: slices.Clone(n.Arcs)})
	}
	for range divide * r.Intn(3) {
		n := g.Nodes[r.Intn(len(g.Nodes))]
		if len(n.Arcs) > 0 {
			arc := &n.Arcs[r.Intn(len(n.Arcs))]
			twin := g.Nodes[arc.To]
			arc.To = len(g.Nodes)
			g.Nodes = append(g.Nodes, api.Node{Type: twin.Type, Arcs: slices.Clone(twin.Arcs)})
		}
	}
	for i, n := range g.Nodes {
		if raise == 1 {
			if l := h.Types[n.Type].Supers; len(l) > 0 && r.Intn(3) == 0 {
				g.Nodes[i].Type = l[r.Intn(len(l))]
			}
		}
		if drop == 1 && len(n.Arcs) > 0 && r.Intn(4) == 0 {
			k := r.Intn(len(n.Arcs))
			g.Nodes[i].Arcs = slices.Delete(n.Arcs, k, k+1)
		}
	}
	return canon(t, g)
}

// target returns the node to which an arc of a node leads, or -1.
func target(f api.FS, n, feat int) int {
	for _, arc := range f.Nodes[n].Arcs {
		if arc.Feat == feat {
			return arc.To
		}
	}
	return -1
}

// isMorphism follows the definition of a morphism.
func isMorphism(h api.Hierarchy, f, g api.FS, m []int) bool {
	if m[0] != 0 {
		return false
	}
	for n, x := range f.Nodes {
		if !hier.Subsumes(h, x.Type, g.Nodes[m[n]].Type) {
			return false
		}
		for _, arc := range x.Arcs {
			if target(g, m[n], arc.Feat) != m[arc.To] {
				return false
			}
		}
	}
	return true
}

// morphisms tries all maps from the nodes of f to those of g.
func morphisms(h api.Hierarchy, f, g api.FS) [][]int {
	var l [][]int
	m := make([]int, len(f.Nodes))
	for {
		if isMorphism(h, f, g, m) {
			l = append(l, slices.Clone(m))
		}
		n := 0
		for n < len(m) && m[n] == len(g.Nodes)-1 {
			m[n] = 0
			n++
		}
		if n == len(m) {
			return l
		}
		m[n]++
	}
}

// P9.1, P9.2, P9.3, P9.6
func TestDefinition(t *testing.T) {
	h := diamond(t)
	r := rand.New(rand.NewSource(21))
	count := make([]int, 4)
	for i := range 4000 {
		f := random(t, r, 4)
		g := random(t, r, 4)
		if i%2 == 0 {
			g = relaxed(t, r, h, f)
			for len(g.Nodes) > 5 {
				g = relaxed(t, r, h, f)
			}
		}
		there, back := morphisms(h, f, g), morphisms(h, g, f)
		if len(there) > 1 || len(back) > 1 {
			t.Fatalf("several morphisms between %s and %s", show(f), show(g))
		}
		check := func(f, g api.FS, l [][]int) {
			m, ok := subsume.Map(h, f, g)
			if ok != (len(l) == 1) || ok && !slices.Equal(m, l[0]) || !ok && m != nil || subsume.Subsumes(h, f, g) != ok {
				t.Fatalf("Map of %s and %s: %v, %v, not %v", show(f), show(g), m, ok, l)
			}
		}
		check(f, g, there)
		check(g, f, back)
		want := []int{api.RelNone, api.RelGeneral, api.RelSpecific, api.RelEqual}[len(there)+2*len(back)]
		if got := subsume.Compare(h, f, g); got != want {
			t.Fatalf("Compare of %s and %s: %d", show(f), show(g), got)
		}
		if (want == api.RelEqual) != graph.Equal(f, g) {
			t.Fatalf("%s and %s: %d", show(f), show(g), want)
		}
		count[want]++
	}
	for want, n := range count {
		if n < 100 {
			t.Errorf("the relation %d was met %d times", want, n)
		}
	}
}

// P9.5: what subsumes is transitive, and maps follow each other.
func TestTransitive(t *testing.T) {
	h := diamond(t)
	r := rand.New(rand.NewSource(22))
	for range 3000 {
		z := random(t, r, 12)
		y := relaxed(t, r, h, z)
		x := relaxed(t, r, h, y)
		xy, ok1 := subsume.Map(h, x, y)
		yz, ok2 := subsume.Map(h, y, z)
		xz, ok3 := subsume.Map(h, x, z)
		if !ok1 || !ok2 || !ok3 {
			t.Fatalf("%s, %s and %s: %v, %v, %v", show(x), show(y), show(z), ok1, ok2, ok3)
		}
		for n, k := range xy {
			if xz[n] != yz[k] {
				t.Fatalf("%s, %s and %s: %v, %v, %v", show(x), show(y), show(z), xy, yz, xz)
			}
		}
		for _, f := range []api.FS{x, y, z} {
			m, ok := subsume.Map(h, f, f)
			for n, k := range m {
				ok = ok && n == k
			}
			if !ok || len(m) != len(f.Nodes) || !subsume.Subsumes(h, graph.Atom(top), f) {
				t.Fatalf("%s: %v, %v", show(f), m, ok)
			}
		}
	}
}

// walk gives all paths of a structure of at most so many features, with the nodes to which they lead.
func walk(f api.FS, most int, visit func(p string, n int)) {
	var step func(p string, n int)
	step = func(p string, n int) {
		visit(p, n)
		for _, arc := range f.Nodes[n].Arcs {
			if len(p) < most {
				step(p+string(rune('0'+arc.Feat)), arc.To)
			}
		}
	}
	step("", 0)
}

// byPaths compares what the paths of f say with what they say in g. Each arc of f is the last one of a path that is not longer than f has nodes.
func byPaths(h api.Hierarchy, f, g api.FS) bool {
	nodes := make(map[string]int)
	walk(g, len(f.Nodes), func(p string, n int) { nodes[p] = n })
	image := make(map[int]int)
	fits := true
	walk(f, len(f.Nodes), func(p string, n int) {
		k, ok := nodes[p]
		if first, met := image[n]; met && first != k {
			ok = false
		}
		image[n] = k
		fits = fits && ok && hier.Subsumes(h, f.Nodes[n].Type, g.Nodes[k].Type)
	})
	return fits
}

// P9.7
func TestPaths(t *testing.T) {
	h := diamond(t)
	r := rand.New(rand.NewSource(23))
	count := 0
	for i := range 2000 {
		f, g := random(t, r, 6), random(t, r, 6)
		if i%2 == 0 {
			f = relaxed(t, r, h, g)
		}
		want := byPaths(h, f, g)
		if got := subsume.Subsumes(h, f, g); got != want {
			t.Fatalf("Subsumes of %s and %s: %v", show(f), show(g), got)
		}
		if !want {
			count++
		}
	}
	if count < 300 || count > 1000 {
		t.Errorf("%d of the structures do not subsume the other ones", count)
	}
}

// maximal follows the definition of Maximal.
func maximal(h api.Hierarchy, l []api.FS) []int {
	var most []int
	for i, f := range l {
		kept := true
		for k, g := range l {
			switch {
			case graph.Equal(f, g):
				kept = kept && k >= i
			case byPaths(h, g, f):
				kept = false
			}
		}
		if kept {
			most = append(most, i)
		}
	}
	return most
}

// P9.4, P9.8
func TestMaximalAll(t *testing.T) {
	h := diamond(t)
	r := rand.New(rand.NewSource(24))
	sizes := make(map[int]int)
	for i := range 1500 {
		l := []api.FS{random(t, r, 5)}
		for range r.Intn(7) {
			f := l[r.Intn(len(l))]
			switch r.Intn(4) {
			case 0:
				f = random(t, r, 1+i%5)
			case 1, 2:
				f = relaxed(t, r, h, f)
			}
			if len(f.Nodes) <= 7 {
				l = append(l, f)
			}
		}
		r.Shuffle(len(l), func(i, k int) { l[i], l[k] = l[k], l[i] })
		got := subsume.Maximal(h, l)
		if want := maximal(h, l); !slices.Equal(got, want) {
			t.Fatalf("Maximal: %v, not %v", got, want)
		}
		sizes[len(got)]++
		for k, f := range l {
			if !slices.ContainsFunc(got, func(m int) bool { return subsume.Subsumes(h, l[m], f) }) {
				t.Fatalf("Maximal: %v lacks one that subsumes %d", got, k)
			}
		}
		for _, m := range got {
			for _, k := range got {
				if m != k && subsume.Subsumes(h, l[m], l[k]) {
					t.Fatalf("Maximal: %v: %d subsumes %d", got, m, k)
				}
			}
		}
	}
	if sizes[1] < 100 || sizes[2] < 100 || sizes[3] < 50 {
		t.Errorf("the sizes of the results: %v", sizes)
	}
}
