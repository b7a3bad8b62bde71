package hier_test

import (
	"math/rand"
	"slices"
	"strconv"
	"strings"
	"testing"

	"grammarlab/api"
	"grammarlab/approp"
	"grammarlab/bits"
	"grammarlab/closure"
	"grammarlab/hier"
	"grammarlab/poset"
)

// decls reads declarations that are separated by semicolons: a name, supertypes after <, and features with colons and their values.
func decls(s string) []api.TypeDecl {
	var l []api.TypeDecl
	for _, part := range strings.Split(s, ";") {
		var d api.TypeDecl
		for i, word := range strings.Fields(part) {
			feat, value, isFeat := strings.Cut(word, ":")
			super, isSuper := strings.CutPrefix(word, "<")
			switch {
			case i == 0:
				d.Name = word
			case isFeat:
				d.Feats = append(d.Feats, api.FeatDecl{Feat: feat, Value: value})
			case isSuper:
				d.Supers = append(d.Supers, super)
			}
		}
		l = append(l, d)
	}
	return l
}

// wide has the types t 0, i 1, a 2, b 3, u 4, v 5, c&d 6, p&q 7, c 8, d 9, p 10, q 11, of which two are added.
const wide = "t; u <t; v <t; p <u <v; q <u <v; i <t F:t G:i; a <i F:u; b <i F:v; c <a <b; d <a <b H:q"

// cube has types that are added below others that are added.
const cube = "t; x <t; y <t; z <t; xy <x <y; xz <x <z; yz <y <z; l <x <y <z; m <x <y <z; n <x <y <z"

// random returns declarations in any order, with names that are not in the order of the types, and some features.
func random(r *rand.Rand, n int) []api.TypeDecl {
	var d []api.TypeDecl
	few := 1 + r.Intn(4) // types that have most of the others below them, so that types are added
	for i, k := range r.Perm(n) {
		t := api.TypeDecl{Name: "n" + strconv.Itoa(k)}
		from := i
		if i <= few {
			from = min(i, 1)
		} else if r.Intn(3) > 0 {
			from = 1 + few
		}
		for _, s := range r.Perm(from)[:min(from, 1+r.Intn(3))] {
			t.Supers = append(t.Supers, d[s].Name)
		}
		if r.Intn(3) == 0 {
			t.Feats = append(t.Feats, api.FeatDecl{Feat: "F" + strconv.Itoa(i), Value: "n" + strconv.Itoa(r.Intn(n))})
		}
		d = append(d, t)
	}
	d[0].Feats = append(d[0].Feats, api.FeatDecl{Feat: "A", Value: d[0].Name})
	for range r.Intn(3) {
		i := r.Intn(len(d))
		d[i].Feats = append(d[i].Feats, api.FeatDecl{Feat: "A", Value: d[r.Intn(1+n/3)].Name})
	}
	return shuffled(r, d)
}

// shuffled returns the same declarations in another order, as well as their supertypes and features.
func shuffled(r *rand.Rand, d []api.TypeDecl) []api.TypeDecl {
	var l []api.TypeDecl
	for _, i := range r.Perm(len(d)) {
		t := api.TypeDecl{Name: d[i].Name, Supers: slices.Clone(d[i].Supers), Feats: slices.Clone(d[i].Feats)}
		r.Shuffle(len(t.Supers), func(a, b int) { t.Supers[a], t.Supers[b] = t.Supers[b], t.Supers[a] })
		r.Shuffle(len(t.Feats), func(a, b int) { t.Feats[a], t.Feats[b] = t.Feats[b], t.Feats[a] })
		l = append(l, t)
	}
	return l
}

// pairs returns a top and n groups of two types with two common subtypes each, for which one type is added.
func pairs(n int) []api.TypeDecl {
	d := decls("t F0:t")
	for i := range n {
		k := strconv.Itoa(i)
		d = append(d, decls("p"+k+" <t; q"+k+" <t; u"+k+" <p"+k+" <q"+k+"; v"+k+" <p"+k+" <q"+k)...)
		d[len(d)-4].Feats = []api.FeatDecl{{Feat: "F" + k, Value: "p" + k}}
	}
	return d
}

// accepted returns declarations that Compile accepts.
func accepted() [][]api.TypeDecl {
	r := rand.New(rand.NewSource(9))
	l := [][]api.TypeDecl{hier.Prelude(), decls("t"), decls("t F:t"), decls(wide), decls(cube), pairs(20)}
	for len(l) < 60 {
		if d := random(r, 1+len(l)/2); approp.Check(d) == api.OK {
			l = append(l, d)
		}
	}
	return l
}

func compile(t *testing.T, d []api.TypeDecl) api.Hierarchy {
	t.Helper()
	h, e := hier.Compile(d)
	if e != api.OK {
		t.Fatalf("Compile(%v): %v", d, e)
	}
	return h
}

// show writes all of a hierarchy.
func show(h api.Hierarchy) string {
	var b strings.Builder
	number := func(sep string, n int) { b.WriteString(sep + strconv.Itoa(n)) }
	for _, t := range h.Types {
		b.WriteString("\n" + t.Name + ":")
		for _, i := range bits.List(t.Code) {
			number(" ", i)
		}
		for _, s := range t.Supers {
			number(" <", s)
		}
		for _, a := range t.Feats {
			number(" F", a.Feat)
			number(":", a.Value)
		}
	}
	for _, f := range h.Feats {
		number("\n"+f.Name+" ", f.Intro)
	}
	return b.String()
}

// P6.1
func TestPrelude(t *testing.T) {
	want := decls(`top; list <top; cons <list FIRST:top REST:list; null <list; dlist <top LIST:list LAST:list;
		index <top; handle <index; event <index; entity <index; rel <top LABEL:handle; qeq <top HIGH:handle LOW:handle;
		sem <top TOP:handle INDEX:index RELS:dlist CONS:dlist; sign <top SEM:sem ARGS:list`)
	equal := func(a, b api.TypeDecl) bool {
		return a.Name == b.Name && slices.Equal(a.Supers, b.Supers) && slices.Equal(a.Feats, b.Feats)
	}
	d := hier.Prelude()
	if !slices.EqualFunc(d, want, equal) {
		t.Errorf("Prelude: %v", d)
	}
	compile(t, d)
	d[0].Name, d[1].Supers[0], d[2].Feats[0].Feat = "x", "x", "X"
	if again := hier.Prelude(); !slices.EqualFunc(again, want, equal) {
		t.Errorf("Prelude after its result was changed: %v", again)
	}
}

// The example of the chapter.
func TestExample(t *testing.T) {
	h := compile(t, hier.Prelude())
	types := strings.Fields("top index list cons dlist entity event handle null qeq rel sem sign")
	feats := strings.Fields("ARGS CONS FIRST HIGH INDEX LABEL LAST LIST LOW RELS REST SEM TOP")
	if len(h.Types) != len(types) || len(h.Feats) != len(feats) {
		t.Fatalf("%d types and %d features", len(h.Types), len(h.Feats))
	}
	for i, name := range types {
		if h.Types[i].Name != name || hier.Type(h, name) != i {
			t.Errorf("type %d is %s, and %s is %d", i, h.Types[i].Name, name, hier.Type(h, name))
		}
	}
	for i, name := range feats {
		if h.Feats[i].Name != name || hier.Feature(h, name) != i {
			t.Errorf("feature %d is %s, and %s is %d", i, h.Feats[i].Name, name, hier.Feature(h, name))
		}
	}
	const list, cons, null, first = 2, 3, 8, 2
	if m, ok := hier.Meet(h, list, cons); m != cons || !ok {
		t.Errorf("Meet of list and cons: %d, %v", m, ok)
	}
	if m, ok := hier.Meet(h, cons, null); m != 0 || ok {
		t.Errorf("Meet of cons and null: %d, %v", m, ok)
	}
	if j := hier.Join(h, cons, null); j != list {
		t.Errorf("Join of cons and null: %d", j)
	}
	if v, ok := hier.Value(h, cons, first); v != 0 || !ok {
		t.Errorf("Value of FIRST for cons: %d, %v", v, ok)
	}
	if v, ok := hier.Value(h, null, first); v != 0 || ok {
		t.Errorf("Value of FIRST for null: %d, %v", v, ok)
	}
	if l := hier.Subtypes(h, 1); !slices.Equal(l, []int{1, 5, 6, 7}) {
		t.Errorf("Subtypes of index: %v", l)
	}
}

// P6.2: all fields, with types that are added.
func TestCompile(t *testing.T) {
	want := `
t: 0 1 2 3 4 5 6 7 8 9
i: 0 1 2 3 4 <0 F0:0 F1:1
a: 0 2 3 <1 F0:4 F1:1
b: 1 2 3 <1 F0:5 F1:1
u: 5 6 8 <0
v: 5 6 9 <0
c&d: 2 3 <2 <3 F0:7 F1:1
p&q: 5 6 <4 <5
c: 2 <6 F0:7 F1:1
d: 3 <6 F0:7 F1:1 F2:11
p: 5 <7
q: 6 <7
F 1
G 1
H 9`
	if got := show(compile(t, decls(wide))); got != want {
		t.Errorf("Compile:%s\nnot%s", got, want)
	}
	if got := show(compile(t, decls("b <a; a"))); got != "\na: 0 1\nb: 1 <0" {
		t.Errorf("two types without features:%s", got)
	}
	for _, d := range accepted() {
		h := compile(t, d)
		l, _ := closure.Codes(d)
		f, _ := approp.Features(d)
		v, _ := approp.Values(d)
		if len(h.Types) != len(l) || !slices.Equal(h.Feats, f) {
			t.Fatalf("%v: %d types, features %v", d, len(h.Types), h.Feats)
		}
		for i, x := range h.Types {
			if x.Name != l[i].Name || !slices.Equal(x.Code, l[i].Code) || !slices.Equal(x.Supers, closure.Supers(l, i)) || !slices.Equal(x.Feats, v[i]) {
				t.Fatalf("%v: type %d is %v", d, i, x)
			}
		}
	}
}

// P6.2: each error of approp.Check, the first one of several, and nothing else.
func TestCompileErrors(t *testing.T) {
	checkError := func(what string, d []api.TypeDecl, want api.Errno) {
		t.Helper()
		h, e := hier.Compile(d)
		if e != want || e != approp.Check(d) || len(h.Types) != 0 || len(h.Feats) != 0 {
			t.Errorf("%s: %v, %v, not %v", what, h, e, want)
		}
	}
	for _, x := range []struct {
		s    string
		want api.Errno
	}{
		{"T", api.ErrArg},
		{"t; a", api.ErrArg},
		{"t; t", api.ErrExists},
		{"a <t", api.ErrMissing},
		{"t f:x; a <t <a", api.ErrCycle},
		{"t f:t", api.ErrArg},
		{"t F:t F:t", api.ErrExists},
		{"t F:x", api.ErrMissing},
		{"t; a <t F:t; b <t F:t", api.ErrIntro},
		{"t; a <t F:t; b <t F:t; c <t G:x", api.ErrMissing},
		{"t; u <t; v <t; a <t F:u; b <a F:v", api.ErrValue},
		{"t; u <t; v <t; a <t F:u; b <a F:v; c <t G:t; d <t G:t", api.ErrIntro},
		{"t F:top", api.ErrMissing},
		{"t F:list; list <t; a <t FIRST:c&d; c <t; d <t", api.ErrMissing},
	} {
		checkError(x.s, decls(x.s), x.want)
	}
	checkError("no declarations", nil, api.ErrArg)
	checkError("the prelude without its top", hier.Prelude()[1:], api.ErrMissing)
	checkError("the prelude twice", append(hier.Prelude(), hier.Prelude()...), api.ErrExists)
	checkError("too many declarations", make([]api.TypeDecl, api.MaxTypes+1), api.ErrTooLong)
	checkError("too many types that are added", pairs(52), api.ErrTooLong)

	d := decls("t F:x")
	for i := range api.MaxFeats {
		d[0].Feats = append(d[0].Feats, api.FeatDecl{Feat: "F" + strconv.Itoa(i), Value: "t"})
	}
	checkError("too many features", d, api.ErrTooLong)
}

// P6.2: as many types and features as there may be, with codes of several words.
func TestLimits(t *testing.T) {
	d := pairs(51)
	for i := 51; i < api.MaxFeats; i++ {
		d[0].Feats = append(d[0].Feats, api.FeatDecl{Feat: "F" + strconv.Itoa(i), Value: "t"})
	}
	d[1].Feats = nil
	h := compile(t, d)
	if len(h.Types) != api.MaxTypes || len(h.Feats) != api.MaxFeats || len(h.Types[0].Code) != 4 {
		t.Fatalf("%d types, %d features, %d words", len(h.Types), len(h.Feats), len(h.Types[0].Code))
	}
	for i := range 51 {
		k := strconv.Itoa(i)
		m, ok := hier.Meet(h, hier.Type(h, "p"+k), hier.Type(h, "q"+k))
		if !ok || h.Types[m].Name != "u"+k+"&v"+k || hier.Join(h, hier.Type(h, "u"+k), hier.Type(h, "v"+k)) != m {
			t.Errorf("Meet of p%s and q%s: %d, %v", k, k, m, ok)
		}
	}

	chain, flat := decls("t"), decls("t")
	for i := 1; i < api.MaxTypes; i++ {
		chain = append(chain, api.TypeDecl{Name: "x" + strconv.Itoa(i), Supers: []string{chain[i-1].Name}})
		flat = append(flat, api.TypeDecl{Name: "x" + strconv.Itoa(i), Supers: []string{"t"}})
	}
	hc, hf := compile(t, chain), compile(t, flat)
	for i := range api.MaxTypes {
		for j := range api.MaxTypes {
			low, high := max(i, j), min(i, j)
			if m, ok := hier.Meet(hc, i, j); m != low || !ok || hier.Join(hc, i, j) != high || hier.Subsumes(hc, i, j) != (i <= j) {
				t.Fatalf("types %d and %d of a chain", i, j)
			}
			met := i == j || high == 0
			if !met {
				low, high = 0, 0
			}
			if m, ok := hier.Meet(hf, i, j); m != low || ok != met || hier.Join(hf, i, j) != high || hier.Subsumes(hf, i, j) != (met && i <= j) {
				t.Fatalf("types %d and %d below the top", i, j)
			}
		}
	}
}

// P6.3, P6.4
func TestNames(t *testing.T) {
	h := compile(t, decls(wide))
	for name, want := range map[string]int{"t": 0, "i": 1, "v": 5, "c&d": 6, "q": 11, "d&c": -1, "c&": -1, "&": -1, "": -1, "F": -1, "top": -1, "T": -1, "tt": -1} {
		if i := hier.Type(h, name); i != want {
			t.Errorf("Type of %q: %d, not %d", name, i, want)
		}
	}
	for name, want := range map[string]int{"F": 0, "G": 1, "H": 2, "": -1, "A": -1, "FF": -1, "GG": -1, "I": -1, "f": -1, "t": -1} {
		if i := hier.Feature(h, name); i != want {
			t.Errorf("Feature of %q: %d, not %d", name, i, want)
		}
	}
	if i := hier.Feature(compile(t, decls("t")), "F"); i != -1 {
		t.Errorf("Feature without features: %d", i)
	}
}

// P6.5, P6.6, P6.7, P6.9 by example.
func TestRelations(t *testing.T) {
	h := compile(t, decls(cube))
	for _, x := range []struct{ a, b, meet, join string }{
		{"x", "y", "l&m&n&xy", "t"},
		{"l&m&n&xy", "l&m&n&yz", "l&m&n", "y"},
		{"l&m&n&xy", "z", "l&m&n", "t"},
		{"xy", "z", "", "t"},
		{"xy", "xz", "", "x"},
		{"xy", "l", "", "l&m&n&xy"},
		{"l", "n", "", "l&m&n"},
		{"l", "l&m&n", "l", "l&m&n"},
		{"t", "yz", "yz", "t"},
		{"n", "n", "n", "n"},
		{"t", "t", "t", "t"},
	} {
		for _, p := range [][2]string{{x.a, x.b}, {x.b, x.a}} {
			i, j := hier.Type(h, p[0]), hier.Type(h, p[1])
			m, ok := hier.Meet(h, i, j)
			if ok != (x.meet != "") || ok && m != hier.Type(h, x.meet) || !ok && m != 0 {
				t.Errorf("Meet of %s and %s: %d, %v", p[0], p[1], m, ok)
			}
			if m := hier.Join(h, i, j); m != hier.Type(h, x.join) {
				t.Errorf("Join of %s and %s: %d", p[0], p[1], m)
			}
			if hier.Subsumes(h, i, j) != (p[1] == x.meet) {
				t.Errorf("Subsumes of %s and %s", p[0], p[1])
			}
		}
	}
	for name, want := range map[string]string{"t": "t x y z l&m&n&xy l&m&n&xz l&m&n&yz l&m&n l m n xy xz yz", "y": "y l&m&n&xy l&m&n&yz l&m&n l m n xy yz", "l&m&n": "l&m&n l m n", "yz": "yz"} {
		var l []string
		for _, i := range hier.Subtypes(h, hier.Type(h, name)) {
			l = append(l, h.Types[i].Name)
		}
		if got := strings.Join(l, " "); got != want {
			t.Errorf("Subtypes of %s: %s", name, got)
		}
	}
}

// P6.8
func TestValue(t *testing.T) {
	h := compile(t, decls(wide))
	for _, x := range []struct{ name, feat, want string }{
		{"i", "F", "t"},
		{"i", "G", "i"},
		{"a", "F", "u"},
		{"b", "F", "v"},
		{"c&d", "F", "p&q"},
		{"c", "F", "p&q"},
		{"d", "G", "i"},
		{"d", "H", "q"},
		{"c", "H", ""},
		{"c&d", "H", ""},
		{"t", "F", ""},
		{"u", "G", ""},
	} {
		v, ok := hier.Value(h, hier.Type(h, x.name), hier.Feature(h, x.feat))
		if ok != (x.want != "") || ok && v != hier.Type(h, x.want) || !ok && v != 0 {
			t.Errorf("Value of %s for %s: %d, %v, not %s", x.feat, x.name, v, ok, x.want)
		}
	}
}

// P6.5 to P6.9: the functions agree with their definitions.
func TestDefinitions(t *testing.T) {
	for _, d := range accepted() {
		h := compile(t, d)
		contains := func(i, j int) bool { return len(bits.Minus(h.Types[j].Code, h.Types[i].Code)) == 0 }
		for a := range h.Types {
			var low []int
			for b := range h.Types {
				both := bits.And(h.Types[a].Code, h.Types[b].Code)
				m, ok := hier.Meet(h, a, b)
				if ok != (len(both) > 0) || ok && !bits.Equal(h.Types[m].Code, both) || !ok && m != 0 {
					t.Fatalf("%v: Meet of %d and %d is %d, %v", d, a, b, m, ok)
				}
				j := hier.Join(h, a, b)
				for k := range h.Types {
					if !contains(j, a) || !contains(j, b) || contains(k, a) && contains(k, b) && !contains(k, j) {
						t.Fatalf("%v: Join of %d and %d is %d", d, a, b, j)
					}
				}
				if hier.Subsumes(h, a, b) != contains(a, b) {
					t.Fatalf("%v: Subsumes of %d and %d", d, a, b)
				}
				if contains(a, b) {
					low = append(low, b)
				}
			}
			if l := hier.Subtypes(h, a); !slices.Equal(l, low) {
				t.Fatalf("%v: Subtypes of %d are %v, not %v", d, a, l, low)
			}
			for f := range h.Feats {
				want := slices.IndexFunc(h.Types[a].Feats, func(x api.Approp) bool { return x.Feat == f })
				v, ok := hier.Value(h, a, f)
				if ok != (want >= 0) || ok && v != h.Types[a].Feats[want].Value || !ok && v != 0 {
					t.Fatalf("%v: Value of %d for %d is %d, %v", d, f, a, v, ok)
				}
			}
		}
	}
}

// P6.7: declared types subsume each other exactly as they were declared.
func TestDeclared(t *testing.T) {
	for _, d := range accepted() {
		h := compile(t, d)
		for _, a := range d {
			above := poset.Above(d, a.Name)
			for _, b := range d {
				if hier.Subsumes(h, hier.Type(h, b.Name), hier.Type(h, a.Name)) != slices.Contains(above, b.Name) {
					t.Fatalf("%v: %s and %s", d, b.Name, a.Name)
				}
			}
		}
	}
}

// P6.10 (W2)
func TestClosure(t *testing.T) {
	for _, d := range accepted() {
		h := compile(t, d)
		l, _ := closure.Codes(d)
		for a := range l {
			for b := range l {
				m, ok := hier.Meet(h, a, b)
				if !ok {
					m = -1
				}
				if m != closure.Meet(l, a, b) || hier.Join(h, a, b) != closure.Join(l, a, b) || hier.Subsumes(h, a, b) != closure.Subsumes(l, a, b) {
					t.Fatalf("%v: %d and %d", d, a, b)
				}
			}
		}
	}
}

// P6.11
func TestNumbers(t *testing.T) {
	for _, d := range accepted() {
		h := compile(t, d)
		for i, x := range h.Types {
			if hier.Type(h, x.Name) != i {
				t.Fatalf("%v: Type of %s", d, x.Name)
			}
		}
		for i, x := range h.Feats {
			if hier.Feature(h, x.Name) != i {
				t.Fatalf("%v: Feature of %s", d, x.Name)
			}
		}
	}
}

// P6.12
func TestOrder(t *testing.T) {
	r := rand.New(rand.NewSource(10))
	for _, d := range accepted() {
		want := show(compile(t, d))
		for range 3 {
			if got := show(compile(t, shuffled(r, d))); got != want {
				t.Fatalf("Compile depends on the order of declarations:%s\n%s", want, got)
			}
		}
	}
}

// P6.13
func TestValues(t *testing.T) {
	for _, d := range accepted() {
		h := compile(t, d)
		for f, x := range h.Feats {
			for a := range h.Types {
				v, ok := hier.Value(h, a, f)
				if ok != hier.Subsumes(h, x.Intro, a) {
					t.Fatalf("%v: %s and %s", d, x.Name, h.Types[a].Name)
				}
				for _, b := range hier.Subtypes(h, a) {
					if w, below := hier.Value(h, b, f); ok && (!below || !hier.Subsumes(h, v, w)) {
						t.Fatalf("%v: %s of %d is %d, and of %d it is %d, %v", d, x.Name, a, v, b, w, below)
					}
				}
			}
		}
	}
}

// R5: neither the declarations nor hierarchies are changed.
func TestImmutable(t *testing.T) {
	d := append(decls(wide), decls("spare")...)[:10]
	supers, feats := []string{"b", "a", "z"}, []api.FeatDecl{{Feat: "H", Value: "q"}, {Feat: "E", Value: "t"}, {Feat: "Z"}}
	d[9].Supers, d[9].Feats = supers[:2], feats[:2]
	h := compile(t, d)
	kept := show(h)
	for a := range h.Types {
		hier.Subtypes(h, a)
		for b := range h.Types {
			hier.Meet(h, a, b)
			hier.Join(h, a, b)
		}
	}
	other := compile(t, d)
	other.Types[0].Name, other.Types[1].Code[0], other.Types[2].Supers[0], other.Types[3].Feats[0].Feat, other.Feats[0].Name = "x", 0, 9, 9, "X"
	if show(h) != kept || show(compile(t, d)) != kept {
		t.Errorf("the hierarchy was changed:%s\nnot%s", show(h), kept)
	}
	if !slices.Equal(supers, []string{"b", "a", "z"}) || feats[0].Feat != "H" || feats[2].Feat != "Z" || d[0].Name != "t" || d[:11][10].Name != "spare" {
		t.Errorf("the declarations were changed: %v, %v, %v", supers, feats, d)
	}
}
