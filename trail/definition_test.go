package trail_test

import (
	"math/rand"
	"slices"
	"strings"
	"testing"

	"grammarlab/api"
	"grammarlab/graph"
	"grammarlab/hier"
	"grammarlab/subsume"
	"grammarlab/trail"
	"grammarlab/unify"
)

// feats is how many features the random structures have.
const feats = 3

// canon returns the canonical form of a graph that has one.
func canon(t *testing.T, f api.FS) api.FS {
	t.Helper()
	f, e := graph.Canon(f)
	if e != api.OK {
		t.Fatal(e)
	}
	return f
}

// random returns a feature structure of at most so many nodes, which may be cyclic.
func random(t *testing.T, r *rand.Rand, most int) api.FS {
	t.Helper()
	size := 1 + r.Intn(most)
	types := [][]int{{top, a, b}, {top, a, b, ab, c, c, d, d}, {c, c, d}}[r.Intn(3)]
	f := api.FS{Nodes: make([]api.Node, size)}
	for i := range f.Nodes {
		f.Nodes[i].Type = types[r.Intn(len(types))]
		for feat := range feats {
			if r.Intn(2) == 0 {
				f.Nodes[i].Arcs = append(f.Nodes[i].Arcs, api.Arc{Feat: feat, To: r.Intn(size)})
			}
		}
	}
	return canon(t, f)
}

// relaxed returns a feature structure that subsumes f: some nodes are divided, some types are replaced by supertypes, and some arcs are dropped.
func relaxed(t *testing.T, r *rand.Rand, h api.Hierarchy, f api.FS) api.FS {
	t.Helper()
	var g api.FS
	for _, n := range f.Nodes {
		g.Nodes = append(g.Nodes, api.Node{Type: n.Type, Arcs: slices.Clone(n.Arcs)})
	}
	for range r.Intn(4) {
		n := g.Nodes[r.Intn(len(g.Nodes))]
		if len(n.Arcs) > 0 {
			arc := &n.Arcs[r.Intn(len(n.Arcs))]
			twin := g.Nodes[arc.To]
			arc.To = len(g.Nodes)
			g.Nodes = append(g.Nodes, api.Node{Type: twin.Type, Arcs: slices.Clone(twin.Arcs)})
		}
	}
	for i, n := range g.Nodes {
		if l := h.Types[n.Type].Supers; len(l) > 0 && r.Intn(3) == 0 {
			g.Nodes[i].Type = l[r.Intn(len(l))]
		}
		if len(n.Arcs) > 0 && r.Intn(5) == 0 {
			k := r.Intn(len(n.Arcs))
			g.Nodes[i].Arcs = slices.Delete(n.Arcs, k, k+1)
		}
	}
	return canon(t, g)
}

// target returns the node to which an arc of a node leads, or -1.
func target(n api.Node, feat int) int {
	for _, arc := range n.Arcs {
		if arc.Feat == feat {
			return arc.To
		}
	}
	return -1
}

// classType follows the definition: the most general one of the types that all types of some nodes subsume.
func classType(h api.Hierarchy, types []int) (int, bool) {
	var below []int
	for t := range h.Types {
		if !slices.ContainsFunc(types, func(s int) bool { return !hier.Subsumes(h, s, t) }) {
			below = append(below, t)
		}
	}
	for _, t := range below {
		if !slices.ContainsFunc(below, func(s int) bool { return !hier.Subsumes(h, t, s) }) {
			return t, true
		}
	}
	return 0, false
}

// state is the cells of a heap and their relation, which gives a number to the class of each cell.
type state struct {
	cells []api.Node
	class []int
}

func (s state) copied() state {
	return state{cells: slices.Clone(s.cells), class: slices.Clone(s.class)}
}

// load adds the nodes of a structure as new cells.
func (s *state) load(f api.FS) int {
	root := len(s.cells)
	for i, n := range f.Nodes {
		moved := api.Node{Type: n.Type}
		for _, arc := range n.Arcs {
			moved.Arcs = append(moved.Arcs, api.Arc{Feat: arc.Feat, To: arc.To + root})
		}
		s.cells = append(s.cells, moved)
		s.class = append(s.class, root+i)
	}
	return root
}

// equate makes two cells equivalent, without closing the relation, and reports whether they were not.
func (s *state) equate(x, y int) bool {
	from, to := s.class[x], s.class[y]
	for c, k := range s.class {
		if k == from {
			s.class[c] = to
		}
	}
	return from != to
}

// types returns the types of the cells of a class.
func (s *state) types(class int) []int {
	var l []int
	for c, k := range s.class {
		if k == class {
			l = append(l, s.cells[c].Type)
		}
	}
	return l
}

// unify follows the definition: the least closed relation that contains the current one and two cells.
func (s *state) unify(h api.Hierarchy, x, y int) bool {
	before := slices.Clone(s.class)
	for more := s.equate(x, y); more; {
		more = false
		for c := range s.cells {
			for k := range c {
				for feat := range feats {
					v, w := target(s.cells[c], feat), target(s.cells[k], feat)
					if s.class[c] == s.class[k] && v >= 0 && w >= 0 && s.equate(v, w) {
						more = true
					}
				}
			}
		}
	}
	for _, k := range s.class {
		if _, ok := classType(h, s.types(k)); !ok {
			s.class = before
			return false
		}
	}
	return true
}

// read follows the definition of the value of a cell.
func (s *state) read(t *testing.T, h api.Hierarchy, cell int) string {
	t.Helper()
	numbers := []int{s.class[cell]}
	for _, k := range s.class {
		if !slices.Contains(numbers, k) {
			numbers = append(numbers, k)
		}
	}
	var f api.FS
	for _, number := range numbers {
		var n api.Node
		for c, x := range s.cells {
			for _, arc := range x.Arcs {
				if s.class[c] == number && target(n, arc.Feat) < 0 {
					n.Arcs = append(n.Arcs, api.Arc{Feat: arc.Feat, To: slices.Index(numbers, s.class[arc.To])})
				}
			}
		}
		var ok bool
		if n.Type, ok = classType(h, s.types(number)); !ok {
			t.Fatalf("no type for a class of %v", s)
		}
		f.Nodes = append(f.Nodes, n)
	}
	return show(canon(t, f))
}

// readAll follows the definition of the values of all cells.
func (s *state) readAll(t *testing.T, h api.Hierarchy) []string {
	t.Helper()
	var l []string
	for c := range s.cells {
		l = append(l, s.read(t, h, c))
	}
	return l
}

// counts is how often calls had a result.
type counts map[string]int

func (c counts) note(what string, ok bool) {
	if ok {
		c[what+" true"]++
	} else {
		c[what+" false"]++
	}
}

// P12.1 to P12.6, P12.9, P12.10: random calls, whose results are compared with the definitions after each one.
func TestCalls(t *testing.T) {
	h := diamond(t)
	r := rand.New(rand.NewSource(51))
	count := make(counts)
	for i := range 400 {
		x, now := trail.New(h), state{}
		var marks []state
		first := r.Intn(12) // the call from which on there are marks
		for call := range 25 {
			before := now.readAll(t, h)
			switch k := r.Intn(10); {
			case k < 2 && len(now.cells) < 16:
				f := random(t, r, 1+i%5)
				if got, want := x.Load(f), now.load(f); got != want {
					t.Fatalf("Load: %d, not %d", got, want)
				}
			case k < 7:
				a, b := r.Intn(len(now.cells)+1), r.Intn(len(now.cells)+1)
				want := a < len(now.cells) && b < len(now.cells) && now.unify(h, a, b)
				if got := x.Unify(a, b); got != want {
					t.Fatalf("Unify of %d and %d in %s: %v", a, b, strings.Join(before, " | "), got)
				}
				count.note("Unify", want)
			case k == 7 && call >= first:
				if got := x.Mark(); got != len(marks) {
					t.Fatalf("Mark: %d, not %d", got, len(marks))
				}
				marks = append(marks, now.copied())
			case k > 7:
				m := r.Intn(len(marks)+2) - 1
				valid := m >= 0 && m < len(marks)
				if valid {
					now, marks = marks[m].copied(), marks[:m+1]
				}
				if got := x.Undo(m); got != valid {
					t.Fatalf("Undo of %d: %v", m, got)
				}
				count.note("Undo", valid)
			}
			if got, want := readAll(t, x), now.readAll(t, h); !slices.Equal(got, want) {
				t.Fatalf("%s, not %s; before the call %s", strings.Join(got, " | "), strings.Join(want, " | "), strings.Join(before, " | "))
			}
		}
	}
	for _, what := range []string{"Unify true", "Unify false", "Undo true", "Undo false"} {
		if count[what] < 300 {
			t.Errorf("%s: %d times", what, count[what])
		}
	}
}

// P12.7: two structures that were loaded.
func TestAsUnify(t *testing.T) {
	h := diamond(t)
	r := rand.New(rand.NewSource(52))
	count := make(counts)
	for i := range 4000 {
		f, g := random(t, r, 1+i%9), random(t, r, 1+i%7)
		if i%3 == 0 {
			z := random(t, r, 1+i%9)
			f, g = relaxed(t, r, h, z), relaxed(t, r, h, z)
		}
		x := trail.New(h)
		p, q := x.Load(f), x.Load(g)
		want, ok := unify.Unify(h, f, g)
		if got := x.Unify(p, q); got != ok {
			t.Fatalf("Unify of %s and %s: %v", show(f), show(g), got)
		}
		left, _ := x.Read(p)
		right, _ := x.Read(q)
		if ok && (!graph.Equal(left, want) || !graph.Equal(right, want)) {
			t.Fatalf("after Unify of %s and %s: %s and %s", show(f), show(g), show(left), show(right))
		}
		if !ok && (!graph.Equal(left, f) || !graph.Equal(right, g)) {
			t.Fatalf("after Unify of %s and %s, which fails: %s and %s", show(f), show(g), show(left), show(right))
		}
		count.note("Unify", ok)
	}
	if count["Unify true"] < 1500 || count["Unify false"] < 500 {
		t.Errorf("%v", count)
	}
}

// apart reports whether no class can be reached by arcs from the classes of both cells.
func apart(now state, x, y int) bool {
	reach := func(c int) map[int]bool {
		classes := map[int]bool{now.class[c]: true}
		for more := true; more; {
			more = false
			for c, n := range now.cells {
				for _, arc := range n.Arcs {
					if k := now.class[arc.To]; classes[now.class[c]] && !classes[k] {
						classes[k] = true
						more = true
					}
				}
			}
		}
		return classes
	}
	first, second := reach(x), reach(y)
	for k := range first {
		if second[k] {
			return false
		}
	}
	return true
}

// P12.7, P12.8, P12.9: cells of a heap in which something was done.
func TestValues(t *testing.T) {
	h := diamond(t)
	r := rand.New(rand.NewSource(53))
	count := make(counts)
	for range 800 {
		x, now := trail.New(h), state{}
		for range 4 {
			f := random(t, r, 3)
			x.Load(f)
			now.load(f)
		}
		for range 5 {
			a, b := r.Intn(x.Len()), r.Intn(x.Len())
			left, _ := x.Read(a)
			right, _ := x.Read(b)
			want, is := unify.Unify(h, left, right)
			var before []api.FS
			for c := range x.Len() {
				f, _ := x.Read(c)
				before = append(before, f)
			}
			free := apart(now, a, b)
			ok := x.Unify(a, b)
			now.unify(h, a, b)
			for c, f := range before {
				if g, _ := x.Read(c); !subsume.Subsumes(h, f, g) || !ok && !graph.Equal(f, g) {
					t.Fatalf("Read of %d after Unify of %d and %d: %v, %s, and %s before", c, a, b, ok, show(g), show(f))
				}
			}
			left, _ = x.Read(a)
			right, _ = x.Read(b)
			if ok && !graph.Equal(left, right) {
				t.Fatalf("after Unify of %d and %d: %s and %s", a, b, show(left), show(right))
			}
			if free && (ok != is || ok && !graph.Equal(left, want)) {
				t.Fatalf("after Unify of %d and %d: %v, %s, not %v, %s", a, b, ok, show(left), is, show(want))
			}
			if free {
				count.note("Unify", ok)
			}
		}
	}
	if count["Unify true"] < 300 || count["Unify false"] < 100 {
		t.Errorf("%v", count)
	}
}

// P12.10: the order of several Unify that succeed.
func TestOrder(t *testing.T) {
	h := diamond(t)
	r := rand.New(rand.NewSource(54))
	for range 1000 {
		x := trail.New(h)
		for range 3 {
			x.Load(random(t, r, 4))
		}
		before := readAll(t, x)
		x.Mark()
		var done [][2]int
		for range 5 {
			if a, b := r.Intn(x.Len()), r.Intn(x.Len()); x.Unify(a, b) {
				done = append(done, [2]int{a, b})
			}
		}
		want := readAll(t, x)
		for range 3 {
			if !x.Undo(0) {
				t.Fatal("Undo")
			}
			checkAll(t, "after Undo", x, before...)
			r.Shuffle(len(done), func(i, k int) { done[i], done[k] = done[k], done[i] })
			for _, p := range done {
				if !x.Unify(p[0], p[1]) {
					t.Fatalf("Unify of %v in another order: %v", p, done)
				}
			}
			checkAll(t, "in another order", x, want...)
		}
	}
}
