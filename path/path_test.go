package path_test

import (
	"math"
	"slices"
	"strconv"
	"strings"
	"testing"

	"grammarlab/api"
	"grammarlab/graph"
	"grammarlab/hier"
	"grammarlab/path"
)

// fs reads a graph: nodes with semicolons between them, each a type and arcs, each a feature and a node with a colon between them.
func fs(s string) api.FS {
	var f api.FS
	for _, part := range strings.Split(s, ";") {
		words := strings.Fields(part)
		n := api.Node{Type: number(words[0])}
		for _, w := range words[1:] {
			feat, to, _ := strings.Cut(w, ":")
			n.Arcs = append(n.Arcs, api.Arc{Feat: number(feat), To: number(to)})
		}
		f.Nodes = append(f.Nodes, n)
	}
	return f
}

// show writes a graph as fs reads it.
func show(f api.FS) string {
	var l []string
	for _, n := range f.Nodes {
		s := strconv.Itoa(n.Type)
		for _, a := range n.Arcs {
			s += " " + strconv.Itoa(a.Feat) + ":" + strconv.Itoa(a.To)
		}
		l = append(l, s)
	}
	return strings.Join(l, "; ")
}

// steps reads a path: numbers with spaces between them.
func steps(s string) []int {
	var p []int
	for _, w := range strings.Fields(s) {
		p = append(p, number(w))
	}
	return p
}

// written writes a path as steps reads it.
func written(p []int) string {
	var l []string
	for _, feat := range p {
		l = append(l, strconv.Itoa(feat))
	}
	return strings.Join(l, " ")
}

// paths writes paths, in parentheses.
func paths(l [][]int) string {
	s := ""
	for _, p := range l {
		s += "(" + written(p) + ")"
	}
	return s
}

// sharings writes pairs of paths.
func sharings(l []api.Sharing) string {
	s := ""
	for _, x := range l {
		s += "(" + written(x.A) + "=" + written(x.B) + ")"
	}
	return s
}

func number(s string) int {
	n, err := strconv.Atoi(s)
	if err != nil {
		panic(err)
	}
	return n
}

// Three structures: the first example of the chapter, one with a cycle and a shared node, and one whose paths and nodes are in different orders.
const (
	example = "1 0:1 1:2; 3 0:2; 2"
	knot    = "2 0:1 1:2; 3 5:2; 4 1:0"
	crossed = "0 0:1 3:4 7:2; 1 5:2; 2 5:3 9:0; 3 1:3 2:4; 4 0:5; 5 0:5"
)

// P8.1, P8.2, P8.3
func TestAt(t *testing.T) {
	for _, x := range []struct {
		s, p string
		n    int
		sub  string // empty if there is no node
	}{
		{example, "", 0, example},
		{example, "0", 1, "3 0:1; 2"},
		{example, "1", 2, "2"},
		{example, "0 0", 2, "2"},
		{example, "0 1", 0, ""},
		{example, "2", 0, ""},
		{example, "1 0", 0, ""},
		{example, "2 0", 0, ""},
		{knot, "", 0, knot},
		{knot, "0 5", 2, "4 1:1; 2 0:2 1:0; 3 5:0"},
		{knot, "1 1 0", 1, "3 5:1; 4 1:2; 2 0:0 1:1"},
		{knot, "1 1", 0, knot},
		{knot, "1 1 1 1 1 1 0 5 1", 0, knot},
		{knot, "0 1", 0, ""},
		{knot, "7", 0, ""},
		{knot, "1 1 5", 0, ""},
		{knot, "5", 0, ""},
		{crossed, "3", 4, "4 0:1; 5 0:1"},
		{crossed, "7 5 1 1 1 2 0 0 0", 5, "5 0:0"},
		{crossed, "7 9 0 5 5 2", 4, "4 0:1; 5 0:1"},
		{crossed, "4", 0, ""},
		{crossed, "1", 0, ""},
		{crossed, "8", 0, ""},
		{crossed, "9223372036854775807", 0, ""},
		{"6 9223372036854775806:1; 7", "9223372036854775806", 1, "7"},
		{"6 9223372036854775806:1; 7", "9223372036854775807", 0, ""},
		{"6 9223372036854775806:1; 7", "0", 0, ""},
	} {
		f, p := fs(x.s), steps(x.p)
		found := x.sub != ""
		if n, ok := path.At(f, p); n != x.n || ok != found {
			t.Errorf("At of %s at %s: %d, %v", x.s, x.p, n, ok)
		}
		if g, ok := path.Get(f, p); ok != found || found && show(g) != x.sub || !found && g.Nodes != nil {
			t.Errorf("Get of %s at %s: %s, %v", x.s, x.p, show(g), ok)
		}
		typ := 0
		if found {
			typ = f.Nodes[x.n].Type
		}
		if got, ok := path.Type(f, p); got != typ || ok != found {
			t.Errorf("Type of %s at %s: %d, %v", x.s, x.p, got, ok)
		}
	}
}

// P8.4, P8.5
func TestFirst(t *testing.T) {
	for _, x := range []struct{ s, first, shared string }{
		{"3", "()", ""},
		{example, "()(0)(1)", "(1=0 0)"},
		{"1 5:0", "()", "(=5)"},
		{"1 5:0 6:0", "()", "(=5)(=6)"},
		{knot, "()(0)(1)", "(1=0 5)(=1 1)"},
		{crossed, "()(0)(7)(7 5)(3)(3 0)", "(7=0 5)(=7 9)(7 5=7 5 1)(3=7 5 2)(3 0=3 0 0)"},
		// Of two arcs from one node to another the one with the smaller feature is the tree arc.
		{"0 4:1 6:1 8:1; 1", "()(4)", "(4=6)(4=8)"},
		// Of two shortest paths the lexicographically least one is the first, whatever their last features are.
		{"0 1:1 2:3; 1 9:2; 2; 3 0:2", "()(1)(1 9)(2)", "(1 9=2 0)"},
		{"0 1:1 2:3; 1 0:2; 2; 3 9:2", "()(1)(1 0)(2)", "(1 0=2 9)"},
		// A path that is shorter comes before one that is lexicographically less.
		{"0 0:1 10:2; 1 0:2; 2 0:3; 3", "()(0)(10)(10 0)", "(10=0 0)"},
		{"0 0:1 9:3; 1 0:2; 2 0:3; 3", "()(0)(0 0)(9)", "(9=0 0 0)"},
		// A first path begins with the first path of the node before the last, also if that node has a greater number.
		{"0 0:1 1:5; 1 7:2; 2 7:3; 4 0:4; 5; 3 0:3", "()(0)(0 7)(1 0)(1 0 0)(1)", "(1 0=0 7 7)"},
		// Numbers are compared, not their digits.
		{"0 2:1 10:4; 1 10:2 11:3; 3; 4; 2 2:2", "()(2)(2 10)(2 11)(10)", "(2 10=10 2)"},
		{"0 0:1; 1 0:2; 2 0:0 1:1 2:2", "()(0)(0 0)", "(=0 0 0)(0=0 0 1)(0 0=0 0 2)"},
	} {
		f := fs(x.s)
		if again, e := graph.Canon(f); e != api.OK || show(again) != x.s {
			t.Fatalf("%s is not canonical", x.s)
		}
		if got := paths(path.First(f)); got != x.first {
			t.Errorf("First of %s: %s, not %s", x.s, got, x.first)
		}
		if got := sharings(path.Shared(f)); got != x.shared {
			t.Errorf("Shared of %s: %s, not %s", x.s, got, x.shared)
		}
	}
}

// P8.6, P8.11
func TestUnder(t *testing.T) {
	for _, x := range []struct{ p, s, want string }{
		{"3 4", "7", "0 3:1; 0 4:2; 7"},
		{"", "7", "7"},
		{"", knot, knot},
		{"7", "3 2:0", "0 7:1; 3 2:1"},
		{"0 0 0", knot, "0 0:1; 0 0:2; 0 0:3; 2 0:4 1:5; 3 5:5; 4 1:3"},
		{"9223372036854775807", example, "0 9223372036854775807:1; 1 0:2 1:3; 3 0:3; 2"},
	} {
		if got := show(path.Under(steps(x.p), fs(x.s))); got != x.want {
			t.Errorf("Under of %s and %s: %s, not %s", x.p, x.s, got, x.want)
		}
	}
}

// P8.6, R1, R2: a path may be of any length, and structures may have more than MaxNodes nodes.
func TestLong(t *testing.T) {
	const n = 1 << 18
	p := make([]int, n)
	for i := range p {
		p[i] = i % 5
	}
	f := path.Under(p, fs(knot))
	if len(f.Nodes) != n+3 || show(api.FS{Nodes: f.Nodes[n:]}) != "2 0:262145 1:262146; 3 5:262146; 4 1:262144" {
		t.Fatalf("Under of a long path: %d nodes", len(f.Nodes))
	}
	for i, x := range f.Nodes[:n] {
		if x.Type != 0 || len(x.Arcs) != 1 || x.Arcs[0] != (api.Arc{Feat: p[i], To: i + 1}) {
			t.Fatalf("Under of a long path: node %d is %v", i, x)
		}
	}
	if g, ok := path.Get(f, p); !ok || show(g) != knot {
		t.Errorf("Get at a long path: %s, %v", show(g), ok)
	}
	if at, ok := path.At(f, append(p, 1, 1, 0)); at != n+1 || !ok {
		t.Errorf("At at a long path: %d, %v", at, ok)
	}
	if typ, ok := path.Type(f, append(p, 7)); typ != 0 || ok {
		t.Errorf("Type at a long path: %d, %v", typ, ok)
	}
	g := path.Under(p[:api.MaxNodes], fs(knot))
	first := path.First(g)
	if len(first) != api.MaxNodes+3 || !slices.Equal(first[api.MaxNodes], p[:api.MaxNodes]) {
		t.Error("First of a deep structure")
	}
	l := path.Shared(g)
	if len(l) != 2 || !slices.Equal(l[1].A, p[:api.MaxNodes]) || !slices.Equal(l[1].B, append(slices.Clone(p[:api.MaxNodes]), 1, 1)) {
		t.Error("Shared of a deep structure")
	}
}

// features returns a hierarchy with these features, ascending.
func features(t *testing.T, names ...string) api.Hierarchy {
	t.Helper()
	d := []api.TypeDecl{{Name: "t"}}
	for _, name := range names {
		d[0].Feats = append(d[0].Feats, api.FeatDecl{Feat: name, Value: "t"})
	}
	h, e := hier.Compile(d)
	if e != api.OK {
		t.Fatal(e)
	}
	return h
}

// P8.7, P8.8, P8.12
func TestPrint(t *testing.T) {
	long := strings.Repeat("L", api.MaxName)
	h := features(t, "F", "F-2", "FIRST", "G", long)
	for _, x := range []struct{ p, s string }{
		{"", ""},
		{"0", "F"},
		{"3 0 0", "G.F.F"},
		{"1 2", "F-2.FIRST"},
		{"4 4", long + "." + long},
		{"0 1 2 3 4", "F.F-2.FIRST.G." + long},
	} {
		p := steps(x.p)
		if s := path.Print(h, p); s != x.s {
			t.Errorf("Print of %s: %s, not %s", x.p, s, x.s)
		}
		if got, e := path.Parse(h, x.s); e != api.OK || !slices.Equal(got, p) {
			t.Errorf("Parse of %s: %v, %v", x.s, got, e)
		}
	}
	prelude, e := hier.Compile(hier.Prelude())
	if e != api.OK {
		t.Fatal(e)
	}
	if p, e := path.Parse(prelude, "SEM.RELS.LIST.FIRST"); e != api.OK || path.Print(prelude, p) != "SEM.RELS.LIST.FIRST" || written(p) != "11 9 7 2" {
		t.Errorf("Parse of features of the prelude: %v, %v", p, e)
	}
}

// P8.8: each error, and the first one of several.
func TestParseErrors(t *testing.T) {
	h := features(t, "F", "G")
	long := strings.Repeat("L", api.MaxName)
	for _, x := range []struct {
		s    string
		want api.Errno
	}{
		{"F.", api.ErrSyntax},
		{"F..G", api.ErrSyntax},
		{".F", api.ErrSyntax},
		{".", api.ErrSyntax},
		{"..", api.ErrSyntax},
		{"f", api.ErrSyntax},
		{"Ff", api.ErrSyntax},
		{"F G", api.ErrSyntax},
		{" F", api.ErrSyntax},
		{"F ", api.ErrSyntax},
		{"F. G", api.ErrSyntax},
		{"F.\n", api.ErrSyntax},
		{"1", api.ErrSyntax},
		{"-F", api.ErrSyntax},
		{"F,G", api.ErrSyntax},
		{"F.\xff", api.ErrSyntax},
		{"F.\u00c4", api.ErrSyntax},
		{"F.\x00", api.ErrSyntax},
		{"F." + long + "L", api.ErrSyntax},
		{"H", api.ErrMissing},
		{"F.G.H", api.ErrMissing},
		{"H.F", api.ErrMissing},
		{"FF", api.ErrMissing},
		{"F-", api.ErrMissing},
		{"F1", api.ErrMissing},
		{"F." + long, api.ErrMissing},
		// Each error is looked for in all parts before the next one.
		{"H.", api.ErrSyntax},
		{"H.g", api.ErrSyntax},
		{"g.H", api.ErrSyntax},
		{strings.Repeat("F.", api.MaxPath), api.ErrTooLong},
		{strings.Repeat(".", api.MaxPath), api.ErrTooLong},
		{strings.Repeat(".", api.MaxPath-1), api.ErrSyntax},
		{strings.Repeat("F.", api.MaxPath-1), api.ErrSyntax},
		{strings.Repeat("H.", api.MaxPath-1) + "g", api.ErrSyntax},
		{strings.Repeat("F.", api.MaxPath-1) + "H", api.ErrMissing},
		{"H.f" + strings.Repeat(".F", api.MaxPath-1), api.ErrTooLong},
		{"H.f" + strings.Repeat(".F", api.MaxPath-2), api.ErrSyntax},
		{"H" + strings.Repeat(".F", api.MaxPath), api.ErrTooLong},
		{strings.Repeat(".", 1<<20), api.ErrTooLong},
		{strings.Repeat("F", 1<<20), api.ErrSyntax},
	} {
		if p, e := path.Parse(h, x.s); e != x.want || p != nil {
			t.Errorf("Parse of %.50q, %d bytes: %v, %v, not %v", x.s, len(x.s), p, e, x.want)
		}
	}
	if p, e := path.Parse(api.Hierarchy{}, "F"); e != api.ErrMissing || p != nil {
		t.Errorf("Parse without features: %v, %v", p, e)
	}
	if p, e := path.Parse(api.Hierarchy{}, ""); e != api.OK || len(p) != 0 {
		t.Errorf("Parse of the empty string: %v, %v", p, e)
	}
}

// P8.8, P8.12: as many parts as there may be; Print has no limit.
func TestMaxPath(t *testing.T) {
	h := features(t, "F", "G")
	s := strings.Repeat("G.F.", api.MaxPath/2)
	s = s[:len(s)-1]
	p, e := path.Parse(h, s)
	if e != api.OK || len(p) != api.MaxPath || path.Print(h, p) != s {
		t.Fatalf("Parse of MaxPath parts: %v, %v", p, e)
	}
	for i, feat := range p {
		if feat != 1-i%2 {
			t.Fatalf("part %d of MaxPath parts: %d", i, feat)
		}
	}
	if got := path.Print(h, append(p, 0)); got != s+".F" {
		t.Errorf("Print of MaxPath + 1 features: %s", got)
	}
	if got, e := path.Parse(h, s+".F"); e != api.ErrTooLong || got != nil {
		t.Errorf("Parse of MaxPath + 1 parts: %v, %v", got, e)
	}
}

// R5: arguments are not changed, with the spare capacity of their lists, and what was returned is not changed later.
func TestImmutable(t *testing.T) {
	f := fs(crossed + "; 9 9:9")
	f.Nodes = f.Nodes[:6]
	for i := range f.Nodes {
		arcs := append(f.Nodes[i].Arcs, api.Arc{Feat: 77, To: 77})
		f.Nodes[i].Arcs = arcs[:len(arcs)-1]
	}
	spare := append(make([]int, 0, 9), 7, 5, 77)
	p := spare[:2]
	check := func(what string) {
		t.Helper()
		if got := show(api.FS{Nodes: f.Nodes[:7]}); got != crossed+"; 9 9:9" {
			t.Fatalf("the argument after %s: %s", what, got)
		}
		for _, n := range f.Nodes {
			if n.Arcs[:len(n.Arcs)+1][len(n.Arcs)] != (api.Arc{Feat: 77, To: 77}) {
				t.Fatalf("the spare capacity of the arcs after %s", what)
			}
		}
		if written(spare) != "7 5 77" {
			t.Fatalf("the path after %s: %v", what, spare)
		}
	}
	first, shared, under := path.First(f), path.Shared(f), path.Under(p, f)
	check("First, Shared and Under")
	path.At(f, p)
	path.Type(f, p)
	g, _ := path.Get(f, p)
	check("At, Type and Get")
	kept := paths(first) + sharings(shared) + show(under) + show(g)
	for i := range first { // a path may not be written into the memory of another one
		first[i] = append(first[i], math.MaxInt)
	}
	for i := range shared {
		shared[i].A, shared[i].B = append(shared[i].A, math.MaxInt), append(shared[i].B, math.MaxInt)
	}
	for i := range first {
		first[i] = first[i][:len(first[i])-1]
	}
	for i, x := range shared {
		shared[i].A, shared[i].B = x.A[:len(x.A)-1], x.B[:len(x.B)-1]
	}
	if got := paths(first) + sharings(shared) + show(under) + show(g); got != kept {
		t.Errorf("the results: %s, not %s", got, kept)
	}
	under.Nodes[3].Arcs[0].To, g.Nodes[0].Type, first[1][0], shared[0].B[0] = 9, 9, 9, 9
	same, _ := path.Get(f, nil)
	same.Nodes[0].Arcs[0].Feat = 9
	same = path.Under(nil, f)
	same.Nodes[0].Arcs[0].Feat = 9
	check("changes of the results")
	g, _ = path.Get(f, p)
	if got := paths(path.First(f)) + sharings(path.Shared(f)) + show(path.Under(p, f)) + show(g); got != kept {
		t.Errorf("the results of the same calls: %s, not %s", got, kept)
	}
}
