package path_test

import (
	"cmp"
	"math/rand"
	"slices"
	"strings"
	"testing"

	"grammarlab/api"
	"grammarlab/graph"
	"grammarlab/path"
)

// random returns canonical graphs of many shapes, with sharing, and some of them with cycles.
func random(t *testing.T, n int) []api.FS {
	t.Helper()
	r := rand.New(rand.NewSource(10))
	var l []api.FS
	for i := range n {
		size := 1 + r.Intn(1+i%9)
		f := api.FS{Nodes: make([]api.Node, size)}
		addArc := func(from, to int) {
			arcs := f.Nodes[from].Arcs
			for feat := r.Intn(3); ; feat++ {
				if !slices.ContainsFunc(arcs, func(a api.Arc) bool { return a.Feat == feat }) {
					f.Nodes[from].Arcs = append(arcs, api.Arc{Feat: feat, To: to})
					return
				}
			}
		}
		for k := range size {
			f.Nodes[k].Type = r.Intn(4)
			if k > 0 {
				addArc(r.Intn(k), k)
			}
		}
		for range r.Intn(size + 2) {
			from, to := r.Intn(size), r.Intn(size)
			if i%2 == 0 { // without cycles
				from, to = min(from, to), max(from, to)
			}
			if i%2 == 1 || from < to {
				addArc(from, to)
			}
		}
		f, e := graph.Canon(f)
		if e != api.OK {
			t.Fatal(e)
		}
		l = append(l, f)
	}
	return l
}

// place is a path and the node at it.
type place struct {
	node int
	path []int
}

// ascending returns all paths of at most so many features with their nodes, the shorter ones first, those of the same length lexicographically.
func ascending(f api.FS, most int) []place {
	var l []place
	var walk func(n int, p []int)
	walk = func(n int, p []int) {
		l = append(l, place{n, p})
		if len(p) == most {
			return
		}
		for _, a := range f.Nodes[n].Arcs {
			walk(a.To, append(slices.Clone(p), a.Feat))
		}
	}
	walk(0, nil)
	slices.SortFunc(l, func(a, b place) int {
		return cmp.Or(len(a.path)-len(b.path), slices.Compare(a.path, b.path))
	})
	return l
}

// first follows the definition of the first path.
func first(f api.FS) [][]int {
	l := make([][]int, len(f.Nodes))
	found := make([]bool, len(f.Nodes))
	most := 0
	for slices.Contains(found, false) {
		for _, x := range ascending(f, most) {
			if !found[x.node] {
				found[x.node], l[x.node] = true, x.path
			}
		}
		most++
	}
	return l
}

// shared follows the definition of tree arcs.
func shared(f api.FS, first [][]int) []api.Sharing {
	var l []api.Sharing
	for n, x := range f.Nodes {
		for _, a := range x.Arcs {
			p := append(slices.Clone(first[n]), a.Feat)
			if !slices.Equal(first[a.To], p) {
				l = append(l, api.Sharing{A: first[a.To], B: p})
			}
		}
	}
	return l
}

// P8.1 to P8.5, P8.9, P8.10
func TestDefinitions(t *testing.T) {
	for _, f := range random(t, 1500) {
		want := first(f)
		l := path.First(f)
		if paths(l) != paths(want) || len(l) != len(want) {
			t.Fatalf("First of %s: %s, not %s", show(f), paths(l), paths(want))
		}
		same := path.Shared(f)
		if sharings(same) != sharings(shared(f, want)) {
			t.Fatalf("Shared of %s: %s", show(f), sharings(same))
		}
		arcs := 0
		for _, n := range f.Nodes {
			arcs += len(n.Arcs)
		}
		if len(same) != arcs-len(f.Nodes)+1 {
			t.Fatalf("Shared of %s has %d elements", show(f), len(same))
		}
		for _, x := range same {
			a, aOK := path.At(f, x.A)
			b, bOK := path.At(f, x.B)
			if a != b || !aOK || !bOK {
				t.Fatalf("Shared of %s: %v", show(f), x)
			}
		}
		for n, p := range l {
			if at, ok := path.At(f, p); at != n || !ok {
				t.Fatalf("At of %s and %v: %d, %v", show(f), p, at, ok)
			}
		}
		checkPlaces(t, f)
	}
}

// checkPlaces compares At, Get and Type with the nodes to which short paths lead, and with the lack of one.
func checkPlaces(t *testing.T, f api.FS) {
	t.Helper()
	nodes := make(map[string]int)
	for _, x := range ascending(f, 3) {
		nodes[written(x.path)] = x.node
	}
	var try func(p []int)
	try = func(p []int) {
		n, found := nodes[written(p)]
		typ := 0
		sub := api.FS{}
		if found {
			typ, sub = f.Nodes[n].Type, graph.Sub(f, n)
		}
		at, ok1 := path.At(f, p)
		got, ok2 := path.Type(f, p)
		g, ok3 := path.Get(f, p)
		if at != n || got != typ || show(g) != show(sub) || ok1 != found || ok2 != found || ok3 != found {
			t.Fatalf("%s at %v: %d %v, %d %v, %s %v", show(f), p, at, ok1, got, ok2, show(g), ok3)
		}
		for feat := 0; len(p) < 3 && feat < 4; feat++ {
			try(append(slices.Clone(p), feat))
		}
	}
	try(nil)
}

// P8.9: the second part of a path is followed from where the first part leads.
func TestParts(t *testing.T) {
	for _, f := range random(t, 300) {
		for _, x := range ascending(f, 3) {
			g, _ := path.Get(f, x.path)
			for _, q := range [][]int{nil, {0}, {1}, {2}, {3}, {0, 1}, {1, 0}, {0, 0, 0}} {
				a, aOK := path.Get(f, append(slices.Clone(x.path), q...))
				b, bOK := path.Get(g, q)
				if show(a) != show(b) || aOK != bOK {
					t.Fatalf("%s at %v and %v: %s, %v, not %s, %v", show(f), x.path, q, show(a), aOK, show(b), bOK)
				}
			}
		}
	}
}

// P8.6, P8.11, R11
func TestUnderAll(t *testing.T) {
	r := rand.New(rand.NewSource(11))
	for _, f := range random(t, 600) {
		p := make([]int, r.Intn(6))
		for i := range p {
			p[i] = r.Intn(5)
		}
		u := path.Under(p, f)
		if again, e := graph.Canon(u); e != api.OK || !graph.Equal(again, u) {
			t.Fatalf("Under of %v and %s is not canonical: %s", p, show(f), show(u))
		}
		if g, ok := path.Get(u, p); !ok || !graph.Equal(g, f) {
			t.Fatalf("Under of %v and %s: %s", p, show(f), show(u))
		}
		if len(u.Nodes) != len(p)+len(f.Nodes) || graph.Cyclic(u) != graph.Cyclic(f) {
			t.Fatalf("Under of %v and %s: %s", p, show(f), show(u))
		}
		for i := range p {
			typ, ok := path.Type(u, p[:i])
			at, _ := path.At(u, p[:i])
			if typ != 0 || !ok || len(u.Nodes[at].Arcs) != 1 {
				t.Fatalf("Under of %v and %s at %v: %s", p, show(f), p[:i], show(u))
			}
		}
	}
}

// P8.7, P8.8, P8.12
func TestPrintAndParse(t *testing.T) {
	r := rand.New(rand.NewSource(12))
	names := strings.Fields("A A-1 A1 AA B B-B LONG-NAME Z0")
	h := features(t, names...)
	for range 500 {
		p := make([]int, r.Intn(api.MaxPath+1))
		var l []string
		for i := range p {
			p[i] = r.Intn(len(names))
			l = append(l, names[p[i]])
		}
		s := path.Print(h, p)
		if s != strings.Join(l, ".") {
			t.Fatalf("Print of %v: %s", p, s)
		}
		if again, e := path.Parse(h, s); e != api.OK || !slices.Equal(again, p) {
			t.Fatalf("Parse of %s: %v, %v", s, again, e)
		}
	}
	const letters = "AAB.-1a "
	for range 20000 {
		b := make([]byte, r.Intn(7))
		for i := range b {
			b[i] = letters[r.Intn(len(letters))]
		}
		p, e := path.Parse(h, string(b))
		if e == api.OK && path.Print(h, p) != string(b) || e != api.OK && p != nil {
			t.Fatalf("Parse of %q: %v, %v", b, p, e)
		}
		if want := parseError(string(b), names); e != want {
			t.Fatalf("Parse of %q: %v, not %v", b, e, want)
		}
	}
}

// parseError returns the error of Parse for a string with few parts.
func parseError(s string, names []string) api.Errno {
	e := api.OK
	for _, part := range strings.Split(s, ".") {
		rest := strings.Trim(part, "ABCDEFGHIJKLMNOPQRSTUVWXYZ0123456789-")
		switch {
		case s == "":
		case part == "" || rest != "" || part[0] < 'A' || part[0] > 'Z':
			return api.ErrSyntax
		case !slices.Contains(names, part):
			e = api.ErrMissing
		}
	}
	return e
}
