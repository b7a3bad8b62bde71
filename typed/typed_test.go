package typed_test

import (
	"slices"
	"strconv"
	"strings"
	"testing"

	"grammarlab/api"
	"grammarlab/graph"
	"grammarlab/hier"
	"grammarlab/path"
	"grammarlab/typed"
)

// fs reads a graph: nodes with semicolons between them, each a type and arcs, each a feature and a node with a colon between them.
func fs(t *testing.T, h api.Hierarchy, s string) api.FS {
	t.Helper()
	var f api.FS
	for _, part := range strings.Split(s, ";") {
		words := strings.Fields(part)
		n := api.Node{Type: hier.Type(h, words[0])}
		for _, w := range words[1:] {
			feat, to, _ := strings.Cut(w, ":")
			n.Arcs = append(n.Arcs, api.Arc{Feat: hier.Feature(h, feat), To: number(to)})
		}
		f.Nodes = append(f.Nodes, n)
	}
	if e := graph.Check(h, f); e != api.OK {
		t.Fatalf("%s: %v", s, e)
	}
	return f
}

// show writes a graph as fs reads it.
func show(h api.Hierarchy, f api.FS) string {
	var l []string
	for _, n := range f.Nodes {
		s := h.Types[n.Type].Name
		for _, a := range n.Arcs {
			s += " " + h.Feats[a.Feat].Name + ":" + strconv.Itoa(a.To)
		}
		l = append(l, s)
	}
	return strings.Join(l, "; ")
}

func number(s string) int {
	n, err := strconv.Atoi(s)
	if err != nil {
		panic(err)
	}
	return n
}

// fails stands for the result of a call that fails.
const fails = "-"

// result writes the result of a call, and reports a failure that has a structure.
func result(t *testing.T, h api.Hierarchy, f api.FS, ok bool) string {
	t.Helper()
	if ok {
		return show(h, f)
	}
	if f.Nodes != nil {
		t.Errorf("a failure with the structure %s", show(h, f))
	}
	return fails
}

// compiled returns the hierarchy of declarations, each of a type, its supertypes after a <, and its features with a colon before the type of the value.
func compiled(t *testing.T, l ...string) api.Hierarchy {
	t.Helper()
	var decls []api.TypeDecl
	for _, s := range l {
		words := strings.Fields(s)
		d := api.TypeDecl{Name: words[0]}
		for _, w := range words[1:] {
			if feat, value, ok := strings.Cut(w, ":"); ok {
				d.Feats = append(d.Feats, api.FeatDecl{Feat: feat, Value: value})
			} else if w != "<" {
				d.Supers = append(d.Supers, w)
			}
		}
		decls = append(decls, d)
	}
	h, e := hier.Compile(decls)
	if e != api.OK {
		t.Fatal(e)
	}
	return h
}

// words returns the hierarchy of most tests, in which word requires a value of itself.
func words(t *testing.T) api.Hierarchy {
	t.Helper()
	return compiled(t, "top", "num < top", "sg < num", "pl < num", "agr < top NUM:num", "agr3 < agr NUM:sg",
		"word < top AGR:agr HEAD:word", "verb < word AGR:agr3 INFL:num", "noun < word COMP:verb", "gerund < verb noun COMP:gerund", "mass < noun")
}

func prelude(t *testing.T) api.Hierarchy {
	t.Helper()
	h, e := hier.Compile(hier.Prelude())
	if e != api.OK {
		t.Fatal(e)
	}
	return h
}

// P14.1
func TestCheck(t *testing.T) {
	h := prelude(t)
	for _, x := range []struct {
		f    string
		want api.Errno
	}{
		// The examples of the chapter.
		{"cons REST:1; top", api.ErrValue},
		{"list REST:1; list", api.ErrIntro},
		// Nodes may lack features that are appropriate.
		{"top", api.OK}, {"sign", api.OK}, {"cons", api.OK}, {"sign SEM:1; sem", api.OK},
		{"cons FIRST:1; top", api.OK}, {"cons FIRST:1 REST:2; rel; cons FIRST:1 REST:3; null", api.OK},
		// The value is more specific than it must be, or as specific, or not.
		{"cons REST:1; list", api.OK}, {"cons REST:1; cons", api.OK}, {"cons REST:1; null", api.OK}, {"cons REST:1; dlist", api.ErrValue},
		{"sem INDEX:1; event", api.OK}, {"sem INDEX:1; handle", api.OK}, {"sem INDEX:1; index", api.OK}, {"sem INDEX:1; top", api.ErrValue},
		{"sem TOP:1; index", api.ErrValue}, {"sem TOP:1; event", api.ErrValue},
		// The type of the node, or of one below it.
		{"top SEM:1; sem", api.ErrIntro}, {"null FIRST:1; top", api.ErrIntro}, {"rel FIRST:1; top", api.ErrIntro},
		{"cons FIRST:1; list FIRST:2; top", api.ErrIntro}, {"cons FIRST:1; cons REST:2; rel", api.ErrValue},
		// Cycles and sharing.
		{"cons REST:0", api.OK}, {"cons FIRST:0 REST:0", api.OK}, {"cons FIRST:1 REST:1; list", api.OK}, {"cons FIRST:1 REST:1; rel", api.ErrValue},
		{"dlist LAST:1 LIST:1; list", api.OK}, {"sign ARGS:1 SEM:1; sem", api.ErrValue}, {"list REST:0", api.ErrIntro}, {"sign SEM:0", api.ErrValue},
		// The first error: of the nodes in order, and of the arcs of a node in order.
		{"cons FIRST:1 REST:2; list REST:2; rel", api.ErrValue},
		{"cons FIRST:1 REST:3; list REST:2; rel; null", api.ErrIntro},
		{"cons FIRST:1 REST:3; cons REST:2; rel; list REST:2", api.ErrValue},
		{"cons REST:1 SEM:2; top; sem", api.ErrValue},
		{"cons ARGS:1 REST:2; list; top", api.ErrIntro},
		{"list FIRST:1 REST:2; top; top", api.ErrIntro},
		{"list REST:1; top", api.ErrIntro},
	} {
		if e := typed.Check(h, fs(t, h, x.f)); e != x.want {
			t.Errorf("Check of %s: %v, not %v", x.f, e, x.want)
		}
	}
	// The value of a feature is that of the type of the node, not that of a supertype.
	h = words(t)
	for _, x := range []struct {
		f    string
		want api.Errno
	}{
		{"word AGR:1; agr", api.OK}, {"noun AGR:1; agr", api.OK}, {"verb AGR:1; agr", api.ErrValue}, {"gerund AGR:1; agr", api.ErrValue}, {"verb AGR:1; agr3", api.OK},
		{"noun COMP:1; verb", api.OK}, {"gerund COMP:1; verb", api.ErrValue}, {"gerund COMP:0", api.OK}, {"mass COMP:1; gerund", api.OK}, {"verb COMP:1; verb", api.ErrIntro},
	} {
		if e := typed.Check(h, fs(t, h, x.f)); e != x.want {
			t.Errorf("Check of %s: %v, not %v", x.f, e, x.want)
		}
	}
}

// P14.1: the errors of graph.Check come first.
func TestCheckGraph(t *testing.T) {
	h := prelude(t)
	list, cons := hier.Type(h, "list"), hier.Type(h, "cons")
	rest := hier.Feature(h, "REST")
	bad := api.Node{Type: list, Arcs: []api.Arc{{Feat: rest, To: 0}}} // ErrIntro
	large := func(n int) api.FS {
		f := ring(h, n, 0)
		f.Nodes[0].Type = list
		return f
	}
	for i, x := range []struct {
		f    api.FS
		want api.Errno
	}{
		{api.FS{}, api.ErrArg},
		{large(api.MaxNodes + 1), api.ErrTooLong},
		{large(api.MaxNodes), api.ErrIntro},
		{ring(h, api.MaxNodes, 0), api.OK},
		{api.FS{Nodes: []api.Node{bad}}, api.ErrIntro},
		{api.FS{Nodes: []api.Node{bad, {Type: -1}}}, api.ErrRange},
		{api.FS{Nodes: []api.Node{bad, {Type: len(h.Types)}}}, api.ErrRange},
		{api.FS{Nodes: []api.Node{{Type: list, Arcs: []api.Arc{{Feat: rest, To: 1}}}}}, api.ErrRange},
		{api.FS{Nodes: []api.Node{{Type: list, Arcs: []api.Arc{{Feat: rest, To: -1}}}}}, api.ErrRange},
		{api.FS{Nodes: []api.Node{{Type: list, Arcs: []api.Arc{{Feat: -1, To: 0}}}}}, api.ErrRange},
		{api.FS{Nodes: []api.Node{{Type: list, Arcs: []api.Arc{{Feat: rest, To: 0}, {Feat: len(h.Feats), To: 0}}}}}, api.ErrRange},
		{api.FS{Nodes: []api.Node{{Type: list, Arcs: []api.Arc{{Feat: rest, To: 0}, {Feat: rest, To: 0}}}}}, api.ErrExists},
		{api.FS{Nodes: []api.Node{{Type: cons, Arcs: []api.Arc{{Feat: rest, To: 0}, {Feat: 0, To: 0}}}}}, api.ErrOrder},
		{api.FS{Nodes: []api.Node{bad, {Type: list}}}, api.ErrOrder},
	} {
		if e := typed.Check(h, x.f); e != x.want {
			t.Errorf("Check of the graph %d: %v, not %v", i, e, x.want)
		}
	}
}

// P14.2, P14.6: the first example of the chapter.
func TestInferExample(t *testing.T) {
	h := prelude(t)
	for _, x := range []struct{ f, want string }{
		{"top REST:1; top FIRST:2; top", "cons REST:1; cons FIRST:2; top"},
		{"null FIRST:1; top", fails},
	} {
		f, ok := typed.Infer(h, fs(t, h, x.f))
		if got := result(t, h, f, ok); got != x.want {
			t.Errorf("Infer of %s: %s, not %s", x.f, got, x.want)
		}
	}
}

// inferences has structures of words, and what Infer returns for them.
func inferences() []struct{ f, want string } {
	return []struct{ f, want string }{
		// What is well typed stays as it is.
		{"top", "top"}, {"gerund", "gerund"}, {"word AGR:1; agr", "word AGR:1; agr"}, {"noun COMP:1; verb AGR:2 INFL:3; agr3; pl", "noun COMP:1; verb AGR:2 INFL:3; agr3; pl"},
		{"word HEAD:0", "word HEAD:0"},
		// The type of a node is that of its features, if it is not more specific.
		{"top AGR:1; agr3", "word AGR:1; agr3"}, {"noun AGR:1; agr", "noun AGR:1; agr"}, {"top INFL:1; num", "verb INFL:1; num"}, {"word INFL:1; sg", "verb INFL:1; sg"},
		{"top COMP:1 INFL:2; gerund; num", "gerund COMP:1 INFL:2; gerund; num"}, {"noun INFL:1; num", "gerund INFL:1; num"},
		{"num AGR:1; agr", fails}, {"agr INFL:1; num", fails}, {"mass INFL:1; num", fails}, {"top AGR:1 NUM:2; agr; num", fails},
		// The type of a value is that of the feature for the type of the node, if it is not more specific.
		{"word AGR:1; top", "word AGR:1; agr"}, {"verb AGR:1; top", "verb AGR:1; agr3"}, {"verb AGR:1; agr", "verb AGR:1; agr3"}, {"word AGR:1; agr3", "word AGR:1; agr3"},
		{"word AGR:1; num", fails}, {"agr3 NUM:1; pl", fails}, {"agr3 NUM:1; num", "agr3 NUM:1; sg"}, {"agr NUM:1; pl", "agr NUM:1; pl"},
		// The one requires the other, from the root down, and from a node up to those beside it.
		{"top AGR:1; top", "word AGR:1; agr"},
		{"verb AGR:1; top NUM:2; top", "verb AGR:1; agr3 NUM:2; sg"},
		{"verb AGR:1; top NUM:2; pl", fails},
		{"top AGR:1 INFL:3; top NUM:2; top; top", "verb AGR:1 INFL:3; agr3 NUM:2; sg; num"},
		{"top AGR:1 INFL:3; top NUM:2; pl; top", fails},
		{"top COMP:1; top AGR:2; top NUM:3; top", "noun COMP:1; verb AGR:2; agr3 NUM:3; sg"},
		{"top COMP:1; top AGR:2; top NUM:3; pl", fails},
		{"top COMP:1; noun AGR:2; agr", "noun COMP:1; gerund AGR:2; agr3"},
		{"top COMP:1; mass", fails},
		{"verb COMP:1; top COMP:2; top COMP:3; word", "gerund COMP:1; gerund COMP:2; gerund COMP:3; gerund"},
		{"noun COMP:1; top COMP:2; top COMP:3; word", "noun COMP:1; gerund COMP:2; gerund COMP:3; gerund"},
		{"top HEAD:1; top HEAD:2; top", "word HEAD:1; word HEAD:2; word"},
		{"top HEAD:1; top HEAD:2; agr", fails},
		// Paths that lead to one node.
		{"top AGR:1 HEAD:2; top; verb AGR:1", "word AGR:1 HEAD:2; agr3; verb AGR:1"},
		{"top AGR:1 HEAD:3; agr NUM:2; pl; verb AGR:1", fails},
		{"top AGR:1 HEAD:1; top", fails},
		{"word COMP:1 HEAD:1; top", "noun COMP:1 HEAD:1; verb"},
		{"top COMP:1 HEAD:3; top INFL:2; top; top COMP:1 INFL:2", "noun COMP:1 HEAD:3; gerund INFL:2; num; gerund COMP:1 INFL:2"},
		// A node comes before one that leads to it, and requires something of it.
		{"top AGR:1 HEAD:3; agr NUM:2; num; top AGR:1 HEAD:0 INFL:2", "word AGR:1 HEAD:3; agr3 NUM:2; sg; verb AGR:1 HEAD:0 INFL:2"},
		// Cycles.
		{"top HEAD:0", "word HEAD:0"}, {"noun COMP:0", "gerund COMP:0"}, {"top COMP:0", "gerund COMP:0"}, {"mass COMP:0", fails}, {"top AGR:0", fails},
		{"top COMP:1; top COMP:0", "gerund COMP:1; gerund COMP:0"}, {"top HEAD:1; top COMP:0", "verb HEAD:1; noun COMP:0"},
		{"top COMP:1; top HEAD:2; top COMP:0", "gerund COMP:1; gerund HEAD:2; noun COMP:0"},
		{"top COMP:1; top HEAD:2; mass COMP:0", "gerund COMP:1; gerund HEAD:2; mass COMP:0"},
		{"top COMP:1; top COMP:2; mass COMP:0", fails},
		{"top AGR:1 COMP:0 HEAD:3; top NUM:2; top; top AGR:1 HEAD:0", "gerund AGR:1 COMP:0 HEAD:3; agr3 NUM:2; sg; word AGR:1 HEAD:0"},
	}
}

// P14.2, P14.6, P14.7
func TestInfer(t *testing.T) {
	h := words(t)
	for _, x := range inferences() {
		f, ok := typed.Infer(h, fs(t, h, x.f))
		if got := result(t, h, f, ok); got != x.want {
			t.Errorf("Infer of %s: %s, not %s", x.f, got, x.want)
		}
		if !ok {
			continue
		}
		if e := typed.Check(h, f); e != api.OK {
			t.Errorf("Infer of %s: %s, %v", x.f, show(h, f), e)
		}
		if again, ok := typed.Infer(h, f); !ok || show(h, again) != x.want {
			t.Errorf("Infer of %s: %s, %v", x.want, show(h, again), ok)
		}
	}
}

// P14.2: the meets are those of the hierarchy, also where it adds types.
func TestInferMeets(t *testing.T) {
	h := compiled(t, "top", "a < top F:top", "b < top G:top", "c < a b F:c", "d < a b G:d", "e < top H:a")
	for _, x := range []struct{ f, want string }{
		{"top F:1; top", "a F:1; top"},
		{"top F:1 G:2; top; top", "c&d F:1 G:2; top; top"},
		{"b F:1; top", "c&d F:1; top"},
		{"c F:1 G:2; top; top", "c F:1 G:2; c; top"},
		{"c F:1 G:2; d; top", fails},
		{"top H:1; b", "e H:1; c&d"},
		{"top H:1; b G:2; e", "e H:1; c&d G:2; e"},
		{"e H:1; d G:2; b", "e H:1; d G:2; d"},
		{"top F:1 H:2; top; top", fails},
	} {
		f, ok := typed.Infer(h, fs(t, h, x.f))
		if got := result(t, h, f, ok); got != x.want {
			t.Errorf("Infer of %s: %s, not %s", x.f, got, x.want)
		}
	}
}

// P14.3, P14.6, P14.8
func TestUnify(t *testing.T) {
	h := words(t)
	for _, x := range []struct{ f, g, want string }{
		{"top", "top", "top"}, {"verb", "noun", "gerund"}, {"verb", "mass", fails}, {"word", "agr", fails},
		// The types of the two require something of the values of the other one.
		{"verb", "word AGR:1; agr", "verb AGR:1; agr3"},
		{"verb", "word AGR:1; agr NUM:2; pl", fails},
		{"verb AGR:1; agr3", "word AGR:1; agr NUM:2; num", "verb AGR:1; agr3 NUM:2; sg"},
		{"noun COMP:1; verb", "verb AGR:1; agr3", "gerund AGR:1 COMP:2; agr3; gerund"},
		{"noun COMP:1; verb", "word HEAD:1; mass", "noun COMP:1 HEAD:2; verb; mass"},
		{"noun COMP:1; verb", "noun COMP:1; noun COMP:2; verb", "noun COMP:1; gerund COMP:2; gerund"},
		{"word HEAD:1; word AGR:2; agr", "word AGR:1 HEAD:3; agr NUM:2; pl; verb AGR:1", fails},
		{"word HEAD:1; word AGR:2; agr", "word AGR:1 HEAD:2; agr3; verb AGR:1", "word AGR:1 HEAD:2; agr3; verb AGR:1"},
		{"word AGR:1 HEAD:2; agr; word AGR:1", "word AGR:1 HEAD:3; agr NUM:2; num; verb AGR:4; agr3", "word AGR:1 HEAD:3; agr3 NUM:2; sg; verb AGR:1"},
		{"word HEAD:0", "noun COMP:1 HEAD:2; verb; verb", "gerund COMP:1 HEAD:0; gerund"},
		// Neither of the two is well typed, or one of them cannot be.
		{"top AGR:1; top", "top INFL:1; top", "verb AGR:1 INFL:2; agr3; num"},
		{"top AGR:1; agr NUM:2; pl", "top INFL:1; top", fails},
		{"num AGR:1; top", "top", fails}, {"top AGR:1; num", "verb", fails},
		{"top AGR:1; top", "top NUM:1; top", fails},
	} {
		f, g := fs(t, h, x.f), fs(t, h, x.g)
		for range 2 {
			u, ok := typed.Unify(h, f, g)
			if got := result(t, h, u, ok); got != x.want {
				t.Errorf("Unify of %s and %s: %s, not %s", show(h, f), show(h, g), got, x.want)
			}
			f, g = g, f
		}
	}
	for _, x := range inferences() {
		f := fs(t, h, x.f)
		for _, g := range []api.FS{f, graph.Atom(hier.Type(h, "top"))} {
			u, ok := typed.Unify(h, f, g)
			if got := result(t, h, u, ok); got != x.want {
				t.Errorf("Unify of %s and %s: %s, not %s", x.f, show(h, g), got, x.want)
			}
		}
	}
}

// P14.4, P14.6
func TestAt(t *testing.T) {
	h := words(t)
	for _, x := range []struct{ f, p, g, want string }{
		{"verb", "", "noun", "gerund"}, {"verb", "", "mass", fails}, {"top", "", "top INFL:1; top", "verb INFL:1; num"},
		{"verb", "AGR.NUM", "num", "verb AGR:1; agr3 NUM:2; sg"},
		{"verb", "AGR.NUM", "pl", fails},
		{"word", "AGR.NUM", "pl", "word AGR:1; agr NUM:2; pl"},
		{"top", "COMP.AGR.NUM", "top", "noun COMP:1; verb AGR:2; agr3 NUM:3; sg"},
		{"top", "COMP.AGR.NUM", "pl", fails},
		{"top", "HEAD.COMP", "noun", "word HEAD:1; noun COMP:2; gerund"},
		{"top", "AGR.HEAD", "top", fails},
		{"num", "AGR", "top", fails},
		{"word AGR:1 HEAD:2; agr; word AGR:1", "HEAD", "verb", "word AGR:1 HEAD:2; agr3; verb AGR:1"},
		{"word AGR:1 HEAD:3; agr NUM:2; pl; word AGR:1", "HEAD", "verb", fails},
		{"word HEAD:0", "HEAD.HEAD.HEAD", "top COMP:1; top", "noun COMP:1 HEAD:0; verb"},
		{"word HEAD:0", "HEAD.COMP", "noun", "noun COMP:1 HEAD:0; gerund"},
		{"word HEAD:0", "COMP.HEAD", "num", fails},
	} {
		p, e := path.Parse(h, x.p)
		if e != api.OK {
			t.Fatal(x.p, e)
		}
		f, ok := typed.At(h, fs(t, h, x.f), p, fs(t, h, x.g))
		if got := result(t, h, f, ok); got != x.want {
			t.Errorf("At of %s, %s and %s: %s, not %s", x.f, x.p, x.g, got, x.want)
		}
	}
}

// checkTotal compares the result of Total.
func checkTotal(t *testing.T, h api.Hierarchy, f api.FS, want string, e api.Errno) {
	t.Helper()
	got, err := typed.Total(h, f)
	if err != e || show(h, got) != want {
		t.Errorf("Total of %s: %s, %v, not %s, %v", show(h, f), show(h, got), err, want, e)
	}
	if err != api.OK {
		if got.Nodes != nil {
			t.Errorf("Total of %s: an error with the structure %s", show(h, f), show(h, got))
		}
		return
	}
	if e := typed.Check(h, got); e != api.OK {
		t.Errorf("Total of %s: %s, %v", show(h, f), show(h, got), e)
	}
	if again, err := typed.Total(h, got); err != api.OK || !graph.Equal(again, got) {
		t.Errorf("Total of %s: %s, %v", show(h, got), show(h, again), err)
	}
}

// P14.5, P14.9
func TestTotal(t *testing.T) {
	h := prelude(t)
	const (
		// A sem and what is below it, at the node 0 and at the node 2.
		sem      = "sem CONS:1 INDEX:4 RELS:5 TOP:8; dlist LAST:2 LIST:3; list; list; index; dlist LAST:6 LIST:7; list; list; handle"
		signsSem = "sem CONS:3 INDEX:6 RELS:7 TOP:10; dlist LAST:4 LIST:5; list; list; index; dlist LAST:8 LIST:9; list; list; handle"
	)
	for _, x := range []struct{ f, want string }{
		// The examples of the chapter.
		{"qeq", "qeq HIGH:1 LOW:2; handle; handle"},
		{"sign", "sign ARGS:1 SEM:2; list; " + signsSem},
		{"sem", sem},
		// Types without features.
		{"top", "top"}, {"list", "list"}, {"null", "null"}, {"event", "event"},
		// Types that appear by inference, and structures that have some of the features.
		{"top REST:1; top FIRST:2; top", "cons FIRST:1 REST:2; top; cons FIRST:3 REST:4; top; list"},
		{"top LOW:1; top", "qeq HIGH:1 LOW:2; handle; handle"},
		{"top HIGH:1; handle", "qeq HIGH:1 LOW:2; handle; handle"},
		{"cons FIRST:1 REST:2; rel; null", "cons FIRST:1 REST:3; rel LABEL:2; handle; null"},
		{"cons FIRST:1 REST:2; top; cons FIRST:1 REST:3; null", "cons FIRST:1 REST:2; top; cons FIRST:1 REST:3; null"},
		{"cons FIRST:1; qeq", "cons FIRST:1 REST:4; qeq HIGH:2 LOW:3; handle; handle; list"},
		// Paths that lead to one node do so in the result.
		{"qeq HIGH:1 LOW:1; handle", "qeq HIGH:1 LOW:1; handle"},
		{"dlist LAST:1 LIST:1; cons", "dlist LAST:1 LIST:1; cons FIRST:2 REST:3; top; list"},
		{"sem INDEX:1 TOP:1; top", "sem CONS:1 INDEX:4 RELS:5 TOP:4; dlist LAST:2 LIST:3; list; list; handle; dlist LAST:6 LIST:7; list; list"},
		// Cycles of the structure are permitted.
		{"cons REST:0", "cons FIRST:1 REST:0; top"},
		{"top FIRST:0", "cons FIRST:0 REST:1; list"},
		{"cons FIRST:1 REST:0; rel", "cons FIRST:1 REST:0; rel LABEL:2; handle"},
	} {
		checkTotal(t, h, fs(t, h, x.f), x.want, api.OK)
	}
	for _, s := range []string{"null FIRST:1; top", "top HIGH:1; event", "top ARGS:1 REST:2; top; top", "cons REST:1; sem", "sign SEM:0"} {
		checkTotal(t, h, fs(t, h, s), "", api.ErrClash)
	}
}

// P14.5, P14.9: a type that requires a value of itself, whether the structure has such a type or not.
func TestTotalCycle(t *testing.T) {
	itself := compiled(t, "top", "a < top F:a", "b < top G:top", "c < top H:b")
	others := compiled(t, "top", "a < top F:b", "b < top G:c", "c < top H:a", "d < top")
	below := compiled(t, "top", "a < top F:top", "b < a F:b", "c < top")
	added := compiled(t, "top", "p < top F:top", "a < p F:q", "b < p F:r", "q < top", "r < top", "c < a b q r", "d < a b q r")
	h := words(t)
	for _, x := range []struct {
		h     api.Hierarchy
		texts []string
		clash string
	}{
		{itself, []string{"top", "a", "b", "c", "a F:0", "a F:1; a", "top H:1; top", "b G:0"}, "a F:1; b"},
		{others, []string{"top", "d", "a F:1; b G:2; c H:0", "top"}, "a F:1; c"},
		{below, []string{"top", "c", "a", "b F:0"}, "c F:0"},
		{h, []string{"top", "sg", "agr", "word HEAD:0", "verb AGR:1; top"}, "agr3 NUM:1; pl"},
	} {
		for _, s := range x.texts {
			checkTotal(t, x.h, fs(t, x.h, s), "", api.ErrCycle)
		}
		// A clash comes first.
		checkTotal(t, x.h, fs(t, x.h, x.clash), "", api.ErrClash)
	}
	// The value of F for the type c&d, which is not declared, is c&d; no other type requires a value of itself.
	if m := hier.Type(added, "c&d"); m < 0 || slices.IndexFunc(added.Types[m].Feats, func(x api.Approp) bool { return x.Value == m }) < 0 {
		t.Fatal(added)
	}
	checkTotal(t, added, fs(t, added, "top"), "", api.ErrCycle)
	// Values that are supertypes of the types that have them.
	h = compiled(t, "top", "a < top F:top", "b < a F:a G:a", "c < b F:b", "d < top H:c")
	checkTotal(t, h, fs(t, h, "top"), "top", api.OK)
	checkTotal(t, h, fs(t, h, "a"), "a F:1; top", api.OK)
	checkTotal(t, h, fs(t, h, "b"), "b F:1 G:3; a F:2; top; a F:4; top", api.OK)
	checkTotal(t, h, fs(t, h, "a H:1; top"), "", api.ErrClash)
}

// grid returns a hierarchy with so many types t0, t1 and so on, each below the one before. Each introduces some features, but for t0, whose values have the type before it.
func grid(t *testing.T, types, feats int) api.Hierarchy {
	t.Helper()
	l := []string{"top", "t0 < top"}
	for i := 1; i < types; i++ {
		above := "t" + strconv.Itoa(i-1)
		s := "t" + strconv.Itoa(i) + " < " + above
		for k := range feats {
			s += " F" + strconv.Itoa(i) + "X" + strconv.Itoa(k) + ":" + above
		}
		l = append(l, s)
	}
	return compiled(t, l...)
}

// P14.5: the limit of the number of nodes, which itself is permitted.
func TestTotalLimit(t *testing.T) {
	h := prelude(t)
	first, rest := hier.Feature(h, "FIRST"), hier.Feature(h, "REST")
	// A chain of n cons nodes gets n nodes at FIRST, if the last one leads back.
	for _, x := range []struct {
		f    api.FS
		want int
		e    api.Errno
	}{
		{ring(h, api.MaxNodes/2, 0), api.MaxNodes, api.OK},
		{ring(h, api.MaxNodes/2+1, 0), 0, api.ErrTooLong},
		{ring(h, api.MaxNodes, 0), 0, api.ErrTooLong},
		{ring(h, api.MaxNodes+1, 0), 0, api.ErrTooLong},
		{ring(h, api.MaxNodes+100, 7), 0, api.ErrTooLong},
		// A node is missing in the end too.
		{path.Under(slices.Repeat([]int{rest}, api.MaxNodes/2-1), graph.Atom(hier.Type(h, "list"))), api.MaxNodes - 1, api.OK},
		{path.Under(slices.Repeat([]int{rest}, api.MaxNodes/2), graph.Atom(hier.Type(h, "list"))), 0, api.ErrTooLong},
		// Structures with all features, of which the larger one has too many nodes already.
		{path.Under(slices.Repeat([]int{first}, api.MaxNodes/2-1), graph.Atom(0)), api.MaxNodes - 1, api.OK},
		{full(h, api.MaxNodes), api.MaxNodes, api.OK},
		{full(h, api.MaxNodes+1), 0, api.ErrTooLong},
	} {
		f, e := typed.Total(h, x.f)
		if e != x.e || len(f.Nodes) != x.want {
			t.Errorf("Total of %d nodes: %d, %v, not %d, %v", len(x.f.Nodes), len(f.Nodes), e, x.want, x.e)
		}
		if e != api.OK && f.Nodes != nil {
			t.Errorf("Total of %d nodes: an error with %d nodes", len(x.f.Nodes), len(f.Nodes))
		}
	}
	// The nodes that are missing are many more than can be made.
	h = grid(t, 60, 1)
	if f, e := typed.Total(h, graph.Atom(hier.Type(h, "t59"))); e != api.ErrTooLong || f.Nodes != nil {
		t.Errorf("Total with many nodes: %d nodes, %v", len(f.Nodes), e)
	}
	// 2 to the power of n nodes.
	for n, e := range map[int]api.Errno{0: api.OK, 3: api.OK, 12: api.OK, 13: api.ErrTooLong, 59: api.ErrTooLong} {
		f, err := typed.Total(h, graph.Atom(hier.Type(h, "t"+strconv.Itoa(n))))
		if err != e || e == api.OK && len(f.Nodes) != 1<<n {
			t.Errorf("Total with 2 to the power of %d nodes: %d, %v", n, len(f.Nodes), err)
		}
	}
	h = grid(t, 2, api.MaxFeats)
	if f, e := typed.Total(h, graph.Atom(hier.Type(h, "t1"))); e != api.OK || len(f.Nodes) != 1+api.MaxFeats {
		t.Errorf("Total with all features: %d nodes, %v", len(f.Nodes), e)
	}
}

// full returns n cons nodes, each with all its features.
func full(h api.Hierarchy, n int) api.FS {
	f := ring(h, n, 0)
	for i := range f.Nodes {
		f.Nodes[i].Arcs = []api.Arc{{Feat: hier.Feature(h, "FIRST"), To: 0}, f.Nodes[i].Arcs[0]}
	}
	return f
}

// ring returns n cons nodes, each of which leads to the next one with the feature REST, and the last one to the given one.
func ring(h api.Hierarchy, n, back int) api.FS {
	f := api.FS{Nodes: make([]api.Node, n)}
	for i := range n {
		f.Nodes[i] = api.Node{Type: hier.Type(h, "cons"), Arcs: []api.Arc{{Feat: hier.Feature(h, "REST"), To: i + 1}}}
	}
	f.Nodes[n-1].Arcs[0].To = back
	return f
}

// R1, R2: structures may be deeper and larger than what graph.Check accepts.
func TestDeep(t *testing.T) {
	h := compiled(t, "top", "list < top", "cons < list FIRST:top REST:list", "good < list", "many < cons good REST:good", "end < good", "bad < list")
	const n = 1 << 17
	p := slices.Repeat([]int{hier.Feature(h, "REST")}, n)
	deep := func(all, last string) api.FS {
		f := path.Under(p, graph.Atom(hier.Type(h, last)))
		for i := range n {
			f.Nodes[i].Type = hier.Type(h, all)
		}
		return f
	}
	begun := func(f api.FS, first string) api.FS {
		f.Nodes[0].Type = hier.Type(h, first)
		return f
	}
	for _, x := range []struct{ f, want api.FS }{
		{deep("top", "top"), deep("cons", "list")},
		{deep("cons", "bad"), deep("cons", "bad")},
		{deep("many", "end"), deep("many", "end")},
		// From the root to the last node, each type requires the next one.
		{begun(deep("top", "top"), "many"), deep("many", "good")},
		{begun(deep("cons", "end"), "good"), deep("many", "end")},
		{begun(deep("cons", "bad"), "many"), api.FS{}},
	} {
		if f, ok := typed.Infer(h, x.f); ok != (x.want.Nodes != nil) || !graph.Equal(f, x.want) {
			t.Errorf("Infer of a deep structure: %d nodes, %v", len(f.Nodes), ok)
		}
	}
	good := graph.Atom(hier.Type(h, "good"))
	if f, ok := typed.Unify(h, good, deep("top", "list")); !ok || !graph.Equal(f, deep("many", "good")) {
		t.Errorf("Unify of a deep structure: %d nodes, %v", len(f.Nodes), ok)
	}
	if f, ok := typed.Unify(h, good, deep("top", "bad")); ok || f.Nodes != nil {
		t.Errorf("Unify of a deep structure that fails: %d nodes, %v", len(f.Nodes), ok)
	}
	if f, ok := typed.At(h, good, p, graph.Atom(hier.Type(h, "end"))); !ok || !graph.Equal(f, deep("many", "end")) {
		t.Errorf("At of a long path: %d nodes, %v", len(f.Nodes), ok)
	}
	if f, e := typed.Total(h, deep("top", "bad")); e != api.ErrTooLong && e != api.ErrCycle || f.Nodes != nil {
		t.Errorf("Total of a deep structure: %d nodes, %v", len(f.Nodes), e)
	}
}

// P14.2: a type may be replaced many times, by ever more specific ones.
func TestManyTypes(t *testing.T) {
	const types = 100
	l := []string{"top", "t0 < top F:t0"}
	for i := range types {
		value := min(i+2, types)
		l = append(l, "t"+strconv.Itoa(i+1)+" < t"+strconv.Itoa(i)+" F:t"+strconv.Itoa(value))
	}
	h := compiled(t, l...)
	last := hier.Type(h, "t"+strconv.Itoa(types))
	// A node of the type ti requires that the next one has the type ti+1, but for t0.
	of := func(n int, first string) api.FS {
		f := api.FS{Nodes: make([]api.Node, n)}
		for i := range n {
			f.Nodes[i].Arcs = []api.Arc{{Feat: 0, To: (i + 1) % n}}
		}
		f.Nodes[0].Type = hier.Type(h, first)
		return f
	}
	for _, n := range []int{1, 2, 3, 1000} {
		f, ok := typed.Infer(h, of(n, "t1"))
		if !ok || slices.ContainsFunc(f.Nodes, func(x api.Node) bool { return x.Type != last }) {
			t.Errorf("Infer of a ring of %d nodes: %v", n, ok)
		}
		f, ok = typed.Infer(h, of(n, "top"))
		if !ok || slices.ContainsFunc(f.Nodes, func(x api.Node) bool { return x.Type != hier.Type(h, "t0") }) {
			t.Errorf("Infer of a general ring of %d nodes: %v", n, ok)
		}
	}
}

// R5: arguments are not changed, with the spare capacity of their lists, and what was returned is not changed later.
func TestImmutable(t *testing.T) {
	h := prelude(t)
	texts := []string{"top FIRST:1 REST:2; top; cons", "cons FIRST:1 REST:3; rel LABEL:2; handle; list"}
	mark := api.Arc{Feat: 77, To: 77}
	// spare returns the same structure, with lists that have spare capacity.
	spare := func(f api.FS) api.FS {
		nodes := append(f.Nodes, api.Node{Type: 9})
		f.Nodes = nodes[:len(nodes)-1]
		for i := range f.Nodes {
			arcs := append(f.Nodes[i].Arcs, mark, mark, mark)
			f.Nodes[i].Arcs = arcs[:len(arcs)-3]
		}
		return f
	}
	l := []api.FS{spare(fs(t, h, texts[0])), spare(fs(t, h, texts[1]))}
	memory := []int{hier.Feature(h, "REST"), 77}
	p := memory[:1]
	before, _ := hier.Compile(hier.Prelude())
	check := func(what string) {
		t.Helper()
		for i, f := range l {
			if show(h, f) != texts[i] || f.Nodes[:len(f.Nodes)+1][len(f.Nodes)].Type != 9 {
				t.Fatalf("an argument after %s: %s", what, show(h, f))
			}
			for _, n := range f.Nodes {
				if !slices.Equal(n.Arcs[:len(n.Arcs)+3][len(n.Arcs):], []api.Arc{mark, mark, mark}) {
					t.Fatalf("the spare capacity of the arcs after %s", what)
				}
			}
		}
		if !slices.Equal(memory, []int{hier.Feature(h, "REST"), 77}) {
			t.Fatalf("the path after %s: %v", what, memory)
		}
		for i, x := range h.Types {
			if x.Name != before.Types[i].Name || !slices.Equal(x.Feats, before.Types[i].Feats) {
				t.Fatalf("the hierarchy after %s: %v", what, x)
			}
		}
	}
	run := func() []api.FS {
		infer, _ := typed.Infer(h, l[0])
		same, _ := typed.Infer(h, l[1])
		two, _ := typed.Unify(h, l[0], l[1])
		at, _ := typed.At(h, l[1], p, l[0])
		total, _ := typed.Total(h, l[0])
		whole, _ := typed.Total(h, l[1])
		typed.Check(h, l[0])
		return []api.FS{infer, same, two, at, total, whole}
	}
	want := []string{
		"cons FIRST:1 REST:2; top; cons", texts[1], "cons FIRST:1 REST:3; rel LABEL:2; handle; cons",
		"cons FIRST:1 REST:3; rel LABEL:2; handle; cons FIRST:4 REST:5; top; cons",
		"cons FIRST:1 REST:2; top; cons FIRST:3 REST:4; top; list", "cons FIRST:1 REST:3; rel LABEL:2; handle; list",
	}
	first := run()
	check("all calls")
	for i, f := range first {
		if show(h, f) != want[i] {
			t.Errorf("the result %d: %s, not %s", i, show(h, f), want[i])
		}
	}
	second := run()
	for _, f := range first {
		f.Nodes[0].Type = 9
		f.Nodes[0].Arcs[1].To = 0
		f.Nodes[0].Arcs = append(f.Nodes[0].Arcs, api.Arc{Feat: 9, To: 0})
	}
	check("changes of the results")
	for i, f := range second {
		if show(h, f) != want[i] {
			t.Errorf("the result %d after changes of the same one: %s, not %s", i, show(h, f), want[i])
		}
	}
}
