package poset_test

import (
	"math/rand"
	"slices"
	"strconv"
	"strings"
	"testing"

	"grammarlab/api"
	"grammarlab/poset"
)

func decl(name string, supers ...string) api.TypeDecl {
	return api.TypeDecl{Name: name, Supers: supers}
}

func decls(l ...api.TypeDecl) []api.TypeDecl { return l }

// diamond is the first example of the chapter.
func diamond() []api.TypeDecl {
	return decls(decl("t"), decl("a", "t"), decl("b", "t"), decl("c", "a", "b"))
}

// numbered returns a top and types below it, n in all.
func numbered(n int) []api.TypeDecl {
	d := decls(decl("t"))
	for i := 1; i < n; i++ {
		d = append(d, decl("t"+strconv.Itoa(i), "t"))
	}
	return d
}

func namesOf(d []api.TypeDecl) []string {
	var l []string
	for _, t := range d {
		l = append(l, t.Name)
	}
	return l
}

// random returns declarations that Check accepts, in any order, with names that are not in the order of the types.
func random(r *rand.Rand, n int) []api.TypeDecl {
	names := make([]string, n)
	for i, k := range r.Perm(n) {
		names[i] = "n" + strconv.Itoa(k)
	}
	var d []api.TypeDecl
	for i, name := range names {
		var supers []string
		for _, k := range r.Perm(i)[:min(i, 1+r.Intn(3))] {
			supers = append(supers, names[k])
		}
		d = append(d, decl(name, supers...))
	}
	return shuffled(r, d)
}

// shuffled returns the same declarations, with their supertypes, in another order.
func shuffled(r *rand.Rand, d []api.TypeDecl) []api.TypeDecl {
	var l []api.TypeDecl
	for _, i := range r.Perm(len(d)) {
		t := decl(d[i].Name)
		for _, k := range r.Perm(len(d[i].Supers)) {
			t.Supers = append(t.Supers, d[i].Supers[k])
		}
		l = append(l, t)
	}
	return l
}

// isAbove computes the supertypes by their definition: a is above[b] of each b below it.
func isAbove(d []api.TypeDecl) map[string]map[string]bool {
	above := map[string]map[string]bool{}
	for _, t := range d {
		above[t.Name] = map[string]bool{t.Name: true}
	}
	for range d {
		for _, t := range d {
			for _, s := range t.Supers {
				for x := range above[s] {
					above[t.Name][x] = true
				}
			}
		}
	}
	return above
}

// hierarchies returns declarations that Check accepts.
func hierarchies() [][]api.TypeDecl {
	r := rand.New(rand.NewSource(3))
	l := [][]api.TypeDecl{decls(decl("t")), decls(decl("a", "t"), decl("t")), diamond()}
	for n := range 40 {
		l = append(l, random(r, 1+n/2))
	}
	return l
}

func checkError(t *testing.T, what string, d []api.TypeDecl, want api.Errno) {
	t.Helper()
	if e := poset.Check(d); e != want {
		t.Errorf("%s: Check returns %v, not %v", what, e, want)
	}
	l, e := poset.Order(d)
	if e != want || e != api.OK && len(l) != 0 {
		t.Errorf("%s: Order returns %v, %v, not %v", what, l, e, want)
	}
}

// P3.1
func TestCheckAccepts(t *testing.T) {
	checkError(t, "only a top", decls(decl("t")), api.OK)
	checkError(t, "the top comes last", decls(decl("c", "b", "a"), decl("b", "t"), decl("a", "t"), decl("t")), api.OK)
	checkError(t, "a direct supertype that is also an indirect one", decls(decl("t"), decl("a", "t"), decl("b", "a", "t")), api.OK)
	checkError(t, "supertypes that are empty but not nil", decls(api.TypeDecl{Name: "t", Supers: []string{}, Feats: []api.FeatDecl{}}), api.OK)
	for i, d := range hierarchies() {
		checkError(t, "hierarchy "+strconv.Itoa(i), d, api.OK)
	}
}

// P3.1, number 1: the limits, each of which is permitted itself.
func TestCheckTooLong(t *testing.T) {
	checkError(t, "MaxTypes types", numbered(api.MaxTypes), api.OK)
	checkError(t, "more than MaxTypes types", numbered(api.MaxTypes+1), api.ErrTooLong)
	checkError(t, "more than MaxTypes types that are not valid", make([]api.TypeDecl, api.MaxTypes+1), api.ErrTooLong)

	d := numbered(api.MaxTypes)
	d[5].Supers = namesOf(d)
	checkError(t, "MaxList supertypes, the type among them", d, api.ErrCycle)
	d[5].Supers = append(slices.Clone(d[5].Supers), "t")
	checkError(t, "more than MaxList supertypes", d, api.ErrTooLong)
	checkError(t, "more than MaxList supertypes in the last one of two declarations", decls(decl("A"), decl("b", make([]string, api.MaxList+1)...)), api.ErrTooLong)
	checkError(t, "MaxList supertypes that are not declared", decls(decl("a", make([]string, api.MaxList)...)), api.ErrMissing)

	d = diamond()
	d[3].Feats = make([]api.FeatDecl, api.MaxList)
	checkError(t, "MaxList features, which are not examined", d, api.OK)
	d[3].Feats = make([]api.FeatDecl, api.MaxList+1)
	checkError(t, "more than MaxList features", d, api.ErrTooLong)
	d[0].Name = "T"
	checkError(t, "more than MaxList features, and an earlier name", d, api.ErrTooLong)
}

// P3.1, number 2
func TestCheckNames(t *testing.T) {
	long := strings.Repeat("x", api.MaxName)
	checkError(t, "a long name", decls(decl(long)), api.OK)
	for _, name := range []string{"", "T", "1", "-a", "a b", "aB", "a&b", "a_b", " a", "caf\u00e9", "a\x00", long + "x"} {
		checkError(t, strconv.Quote(name), decls(decl("t"), decl(name, "t")), api.ErrArg)
		checkError(t, strconv.Quote(name)+" alone", decls(decl(name)), api.ErrArg)
	}
	checkError(t, "a name twice", decls(decl("t"), decl("a", "t"), decl("a", "t")), api.ErrExists)
	checkError(t, "the top twice", decls(decl("t"), decl("t")), api.ErrExists)
	checkError(t, "a name twice and then one that is not valid", decls(decl("t"), decl("t"), decl("T")), api.ErrExists)
	checkError(t, "one that is not valid and then a name twice", decls(decl("t"), decl("T"), decl("t")), api.ErrArg)
	checkError(t, "one that is not valid twice", decls(decl("T"), decl("T")), api.ErrArg)
	checkError(t, "a name after a supertype that is missing", decls(decl("t", "x"), decl("T")), api.ErrArg)
	checkError(t, "a name twice after a supertype that is missing", decls(decl("t", "x"), decl("t")), api.ErrExists)
}

// P3.1, number 3
func TestCheckSupers(t *testing.T) {
	checkError(t, "the example", decls(decl("a", "b")), api.ErrMissing)
	checkError(t, "the last supertype is missing", decls(decl("t"), decl("a", "t"), decl("b", "t", "a", "x")), api.ErrMissing)
	checkError(t, "an empty supertype", decls(decl("t"), decl("a", "")), api.ErrMissing)
	checkError(t, "a supertype that is no name", decls(decl("t"), decl("a", "T")), api.ErrMissing)
	checkError(t, "a supertype twice", decls(decl("t"), decl("a", "t"), decl("b", "t", "t")), api.ErrExists)
	checkError(t, "a supertype twice, with another one between", decls(decl("t"), decl("a", "t"), decl("b", "a", "t", "a")), api.ErrExists)
	checkError(t, "twice and then missing", decls(decl("t"), decl("a", "t", "t", "x")), api.ErrExists)
	checkError(t, "missing and then twice", decls(decl("t"), decl("a", "x", "t", "t")), api.ErrMissing)
	checkError(t, "missing twice", decls(decl("t"), decl("a", "x", "x")), api.ErrMissing)
	checkError(t, "twice in the first declaration and missing in the second one", decls(decl("a", "t", "t"), decl("b", "x"), decl("t")), api.ErrExists)
	checkError(t, "missing in the first declaration and twice in the second one", decls(decl("b", "x"), decl("a", "t", "t"), decl("t")), api.ErrMissing)
	checkError(t, "missing, and no top", decls(decl("a", "a"), decl("b", "x")), api.ErrMissing)
	checkError(t, "twice, and two tops", decls(decl("t"), decl("u"), decl("a", "t", "t")), api.ErrExists)
	checkError(t, "the same supertype in two declarations", decls(decl("t"), decl("a", "t"), decl("b", "t")), api.OK)
}

// P3.1, number 4
func TestCheckTop(t *testing.T) {
	checkError(t, "no declarations", nil, api.ErrArg)
	checkError(t, "no declarations, not nil", decls(), api.ErrArg)
	checkError(t, "two tops", decls(decl("t"), decl("u")), api.ErrArg)
	checkError(t, "two tops with a common subtype", decls(decl("t"), decl("a", "t", "u"), decl("u")), api.ErrArg)
	checkError(t, "a type below itself, and no top", decls(decl("a", "a")), api.ErrArg)
	checkError(t, "a cycle, and no top", decls(decl("a", "b"), decl("b", "a")), api.ErrArg)
	checkError(t, "a cycle, and two tops", decls(decl("a", "b"), decl("b", "a"), decl("t"), decl("u")), api.ErrArg)
}

// P3.1, number 5
func TestCheckCycles(t *testing.T) {
	checkError(t, "the example", decls(decl("a", "b"), decl("b", "a"), decl("t")), api.ErrCycle)
	checkError(t, "a type below itself", decls(decl("t"), decl("a", "a")), api.ErrCycle)
	checkError(t, "a type below itself and the top", decls(decl("t"), decl("a", "t", "a")), api.ErrCycle)
	checkError(t, "a cycle below the top", decls(decl("t"), decl("a", "t", "c"), decl("b", "a"), decl("c", "b")), api.ErrCycle)
	checkError(t, "a cycle with a type below it", decls(decl("t"), decl("a", "b", "t"), decl("b", "a"), decl("c", "b")), api.ErrCycle)
	d := numbered(api.MaxTypes)
	for i := 1; i < len(d); i++ {
		d[i].Supers = []string{d[i-1].Name}
	}
	checkError(t, "a long chain", d, api.OK)
	d[1].Supers = []string{"t", d[len(d)-1].Name}
	checkError(t, "a long cycle", d, api.ErrCycle)
}

func checkList(t *testing.T, what string, got []string, want ...string) {
	t.Helper()
	if !slices.Equal(got, want) {
		t.Errorf("%s: %v, not %v", what, got, want)
	}
}

// P3.2
func TestOrder(t *testing.T) {
	for _, x := range []struct {
		d    []api.TypeDecl
		want string
	}{
		{decls(decl("t")), "t"},
		{decls(decl("t"), decl("b", "t"), decl("a", "b"), decl("c", "t")), "t b a c"},
		{diamond(), "t a b c"},
		{decls(decl("a", "b"), decl("b", "c"), decl("c")), "c b a"},
		{decls(decl("z"), decl("b", "z"), decl("a", "y"), decl("y", "z"), decl("c", "b")), "z b c y a"},
		{decls(decl("t"), decl("a10", "t"), decl("a9", "t"), decl("a-", "t"), decl("a", "t")), "t a a- a10 a9"},
		{decls(decl("t"), decl("x", "t"), decl("y", "t"), decl("a", "x", "y", "t"), decl("z", "t")), "t x y a z"},
	} {
		l, e := poset.Order(x.d)
		if e != api.OK || !slices.Equal(l, strings.Fields(x.want)) {
			t.Errorf("Order(%v) = %v, %v", x.d, l, e)
		}
	}
}

// P3.2: the order agrees with its definition, and does not depend on that of the declarations.
func TestOrderDefinition(t *testing.T) {
	r := rand.New(rand.NewSource(4))
	for _, d := range hierarchies() {
		l, e := poset.Order(d)
		if m, f := poset.Order(shuffled(r, d)); e != api.OK || f != api.OK || !slices.Equal(l, m) {
			t.Fatalf("Order depends on the order of declarations: %v, %v", l, m)
		}
		var want []string
		for range d {
			var next []string
			for _, x := range d {
				if !slices.Contains(want, x.Name) && !slices.ContainsFunc(x.Supers, func(s string) bool { return !slices.Contains(want, s) }) {
					next = append(next, x.Name)
				}
			}
			want = append(want, slices.Min(next))
		}
		if !slices.Equal(l, want) {
			t.Fatalf("Order(%v) = %v, not %v", d, l, want)
		}
	}
}

// P3.3, P3.4
func TestAboveBelow(t *testing.T) {
	d := diamond()
	checkList(t, "Above of c", poset.Above(d, "c"), "a", "b", "c", "t")
	checkList(t, "Above of a", poset.Above(d, "a"), "a", "t")
	checkList(t, "Above of t", poset.Above(d, "t"), "t")
	checkList(t, "Below of a", poset.Below(d, "a"), "a", "c")
	checkList(t, "Below of c", poset.Below(d, "c"), "c")
	checkList(t, "Below of t", poset.Below(d, "t"), "a", "b", "c", "t")
	for _, name := range []string{"", "x", "T", "a&b", "a "} {
		checkList(t, "Above of "+name, poset.Above(d, name))
		checkList(t, "Below of "+name, poset.Below(d, name))
	}
	d = decls(decl("a", "b"), decl("b", "c"), decl("c", "d"), decl("d"))
	checkList(t, "Above in a chain", poset.Above(d, "b"), "b", "c", "d")
	checkList(t, "Below in a chain", poset.Below(d, "c"), "a", "b", "c")
}

// P3.3, P3.4, P3.8: both agree with their definition.
func TestAboveBelowDefinition(t *testing.T) {
	for _, d := range hierarchies() {
		is := isAbove(d)
		names := slices.Sorted(slices.Values(namesOf(d)))
		for _, a := range names {
			var above, below []string
			for _, b := range names {
				if is[a][b] {
					above = append(above, b)
				}
				if is[b][a] {
					below = append(below, b)
				}
				inAbove, inBelow := slices.Contains(poset.Above(d, a), b), slices.Contains(poset.Below(d, b), a)
				if inAbove != inBelow || a != b && inAbove && slices.Contains(poset.Above(d, b), a) {
					t.Fatalf("%v: %s and %s", d, a, b)
				}
			}
			if l := poset.Above(d, a); !slices.Equal(l, above) {
				t.Fatalf("%v: Above of %s is %v", d, a, l)
			}
			if l := poset.Below(d, a); !slices.Equal(l, below) {
				t.Fatalf("%v: Below of %s is %v", d, a, l)
			}
		}
	}
}

// P3.5, P3.6
func TestMaximalMinimal(t *testing.T) {
	d := decls(decl("t"), decl("a", "t"), decl("b", "t"), decl("c", "a", "b"), decl("e", "c"), decl("f", "b"))
	for _, x := range []struct{ names, maximal, minimal string }{
		{"", "", ""},
		{"x", "", ""},
		{"x Y 1 x", "", ""},
		{"c a x a", "a", "c"},
		{"a b c", "a b", "c"},
		{"c b a", "a b", "c"},
		{"a e", "a", "e"},
		{"e t", "t", "e"},
		{"f e c", "c f", "e f"},
		{"t a b c e f", "t", "e f"},
		{"e e e", "e", "e"},
		{"f a f a", "a f", "a f"},
	} {
		names := strings.Fields(x.names)
		checkList(t, "Maximal of "+x.names, poset.Maximal(d, names), strings.Fields(x.maximal)...)
		checkList(t, "Minimal of "+x.names, poset.Minimal(d, names), strings.Fields(x.minimal)...)
	}
	checkList(t, "Maximal with an empty name", poset.Maximal(d, []string{"", "c", "\xff"}), "c")
	checkList(t, "Minimal with an empty name", poset.Minimal(d, []string{"", "c", "\xff"}), "c")
	checkList(t, "the example", poset.Minimal(diamond(), []string{"a", "b", "c"}), "c")
	checkList(t, "the example of P3.5", poset.Maximal(decls(decl("t"), decl("a", "t"), decl("c", "a")), []string{"c", "a", "x", "a"}), "a")
}

// P3.5, P3.6, P3.9: both agree with their definition, and every name is below and above an element.
func TestMaximalMinimalDefinition(t *testing.T) {
	r := rand.New(rand.NewSource(5))
	for _, d := range hierarchies() {
		is := isAbove(d)
		names := []string{"x", "", "T"}
		for range r.Intn(2*len(d)) + 1 {
			names = append(names, d[r.Intn(len(d))].Name)
		}
		declared := slices.Compact(slices.Sorted(slices.Values(names[3:])))
		r.Shuffle(len(names), func(i, k int) { names[i], names[k] = names[k], names[i] })
		var maximal, minimal []string
		for _, a := range declared {
			if !slices.ContainsFunc(declared, func(b string) bool { return a != b && is[a][b] }) {
				maximal = append(maximal, a)
			}
			if !slices.ContainsFunc(declared, func(b string) bool { return a != b && is[b][a] }) {
				minimal = append(minimal, a)
			}
		}
		checkList(t, "Maximal", poset.Maximal(d, names), maximal...)
		checkList(t, "Minimal", poset.Minimal(d, names), minimal...)
		for _, a := range declared {
			above := func(b string) bool { return slices.Contains(poset.Below(d, b), a) }
			below := func(b string) bool { return slices.Contains(poset.Above(d, b), a) }
			if !slices.ContainsFunc(poset.Maximal(d, names), above) || !slices.ContainsFunc(poset.Minimal(d, names), below) {
				t.Fatalf("%v: %s is not below a maximal and above a minimal one of %v", d, a, names)
			}
		}
	}
}

// P3.7
func TestTop(t *testing.T) {
	for _, d := range hierarchies() {
		l, _ := poset.Order(d)
		for i, name := range l {
			above := poset.Above(d, name)
			if !slices.Contains(above, l[0]) {
				t.Fatalf("%v: %s is not above %s", d, l[0], name)
			}
			for _, a := range above {
				if slices.Index(l, a) > i {
					t.Fatalf("%v: %s comes after %s in %v", d, a, name, l)
				}
			}
		}
		for _, x := range d {
			if (len(x.Supers) == 0) != (x.Name == l[0]) {
				t.Fatalf("%v: the first one of %v", d, l)
			}
		}
		checkList(t, "Below of the top", poset.Below(d, l[0]), slices.Sorted(slices.Values(namesOf(d)))...)
	}
}

// P3.10
func TestOrderOfDeclarations(t *testing.T) {
	r := rand.New(rand.NewSource(6))
	for _, d := range hierarchies() {
		other := shuffled(r, d)
		if e := poset.Check(other); e != api.OK {
			t.Fatalf("Check(%v): %v", other, e)
		}
		for _, x := range d {
			checkList(t, "Above of "+x.Name, poset.Above(other, x.Name), poset.Above(d, x.Name)...)
			checkList(t, "Below of "+x.Name, poset.Below(other, x.Name), poset.Below(d, x.Name)...)
		}
	}
}

// R5: a function changes neither its arguments, nor their spare capacity, nor what it returned before.
func TestImmutable(t *testing.T) {
	memory := []string{"b", "a", "z", "z"}
	names := []string{"c", "a", "x", "a", "t", "z", "z"}
	d := append(diamond(), decl("spare"))[:4]
	d[3].Supers = memory[:2]
	results := func() [][]string {
		order, _ := poset.Order(d)
		return [][]string{order, poset.Above(d, "c"), poset.Below(d, "t"), poset.Maximal(d, names[:5]), poset.Minimal(d, names[:5])}
	}
	first := results()
	results()
	if !slices.Equal(memory, []string{"b", "a", "z", "z"}) || !slices.Equal(names, []string{"c", "a", "x", "a", "t", "z", "z"}) {
		t.Errorf("an argument was changed: %v, %v", memory, names)
	}
	if got := strings.Join(namesOf(d[:5]), " "); got != "t a b c spare" {
		t.Errorf("the declarations were changed: %s", got)
	}
	for i, want := range []string{"t a b c", "a b c t", "a b c t", "t", "c"} {
		if got := strings.Join(first[i], " "); got != want {
			t.Errorf("result %d: %s", i, got)
		}
	}
}
