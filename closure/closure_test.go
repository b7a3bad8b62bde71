package closure_test

import (
	"cmp"
	"math/rand"
	"slices"
	"strconv"
	"strings"
	"testing"

	"grammarlab/api"
	"grammarlab/bits"
	"grammarlab/closure"
	"grammarlab/poset"
)

func decl(name string, supers ...string) api.TypeDecl {
	return api.TypeDecl{Name: name, Supers: supers}
}

func decls(l ...api.TypeDecl) []api.TypeDecl { return l }

// example is the hierarchy of the chapter's example.
func example() []api.TypeDecl {
	return decls(decl("t"), decl("a", "t"), decl("b", "t"), decl("c", "a", "b"), decl("d", "a", "b"))
}

// cube has three types, three below two of them each, and three below all of them, so that intersections intersect.
func cube() []api.TypeDecl {
	return decls(decl("t"), decl("x", "t"), decl("y", "t"), decl("z", "t"),
		decl("xy", "x", "y"), decl("xz", "x", "z"), decl("yz", "y", "z"),
		decl("l", "x", "y", "z"), decl("m", "x", "y", "z"), decl("n", "x", "y", "z"))
}

// pairs returns a top and n groups of two types with two common subtypes each, for which one type is added.
func pairs(n int) []api.TypeDecl {
	d := decls(decl("t"))
	for i := range n {
		k := strconv.Itoa(i)
		d = append(d, decl("p"+k, "t"), decl("q"+k, "t"), decl("u"+k, "p"+k, "q"+k), decl("v"+k, "p"+k, "q"+k))
	}
	return d
}

// subsets returns n types and n types each of which is below all of them but one: their intersections are 2^n sets.
func subsets(n int) []api.TypeDecl {
	d := decls(decl("t"))
	for i := range n {
		d = append(d, decl("a"+strconv.Itoa(i), "t"))
	}
	for i := range n {
		low := decl("b" + strconv.Itoa(i))
		for k := range n {
			if k != i {
				low.Supers = append(low.Supers, "a"+strconv.Itoa(k))
			}
		}
		d = append(d, low)
	}
	return d
}

// random returns declarations in any order, with names that are not in the order of the types.
func random(r *rand.Rand, n int) []api.TypeDecl {
	names := make([]string, n)
	for i, k := range r.Perm(n) {
		names[i] = "n" + strconv.Itoa(k)
	}
	var d []api.TypeDecl
	for i, name := range names {
		var supers []string
		// Types are added where many types have several supertypes among few that are not below each other.
		few := i
		if i <= n/3 {
			few = min(i, 1)
		} else if n%2 == 0 {
			few = 1 + n/3
		}
		for _, k := range r.Perm(few)[:min(few, 1+r.Intn(4))] {
			supers = append(supers, names[k])
		}
		d = append(d, decl(name, supers...))
	}
	r.Shuffle(n, func(i, k int) { d[i], d[k] = d[k], d[i] })
	return d
}

// hierarchies returns declarations whose completed hierarchies have few types, and many shapes.
func hierarchies() [][]api.TypeDecl {
	r := rand.New(rand.NewSource(7))
	l := [][]api.TypeDecl{decls(decl("t")), example(), cube(), pairs(3), subsets(3), subsets(4), pairs(20)}
	for n := range 30 {
		l = append(l, random(r, 1+n))
	}
	return l
}

func codes(t *testing.T, d []api.TypeDecl) []api.Coded {
	t.Helper()
	l, e := closure.Codes(d)
	if e != api.OK {
		t.Fatalf("Codes(%v): %v", d, e)
	}
	return l
}

// show writes types with the elements of their codes.
func show(l []api.Coded) string {
	var parts []string
	for _, x := range l {
		var numbers []string
		for _, i := range bits.List(x.Code) {
			numbers = append(numbers, strconv.Itoa(i))
		}
		parts = append(parts, x.Name+" "+strings.Join(numbers, ","))
	}
	return strings.Join(parts, "; ")
}

// P4.1
func TestCodes(t *testing.T) {
	for _, x := range []struct {
		d    []api.TypeDecl
		want string
	}{
		{decls(decl("t")), "t 0"},
		{example(), "t 0,1,2,3,4; a 0,2,3; b 1,2,3; c&d 2,3; c 2; d 3"},
		{decls(decl("t"), decl("a", "t"), decl("b", "t"), decl("c", "a", "b")), "t 0,1,2,3; a 0,2; b 1,2; c 2"},
		{decls(decl("t"), decl("a", "t"), decl("b", "t"), decl("c", "a", "b"), decl("d", "c"), decl("e", "c")), "t 0,1,2,3,4,5; a 0,2,3,4; b 1,2,3,4; c 2,3,4; d 3; e 4"},
		{decls(decl("t"), decl("a", "t"), decl("b", "t"), decl("c", "a", "b"), decl("d", "a", "b"), decl("e", "c", "d")), "t 0,1,2,3,4,5; a 0,2,3,4; b 1,2,3,4; c&d 2,3,4; c 2,4; d 3,4; e 4"},
		{decls(decl("b", "z"), decl("a", "b"), decl("z")), "z 0,1,2; b 0,1; a 0"},
		{cube(), "t 0,1,2,3,4,5,6,7,8,9; x 0,1,2,4,5,6; y 0,1,2,5,7,8; z 0,1,2,6,8,9; l&m&n&xy 0,1,2,5; l&m&n&xz 0,1,2,6; l&m&n&yz 0,1,2,8; l&m&n 0,1,2; l 0; m 1; n 2; xy 5; xz 6; yz 8"},
	} {
		if got := show(codes(t, x.d)); got != x.want {
			t.Errorf("Codes(%v):\n%s\nnot\n%s", x.d, got, x.want)
		}
	}
}

// P4.1: codes of several words.
func TestCodesLong(t *testing.T) {
	l := codes(t, pairs(40))
	if len(l) != 201 || len(l[0].Code) != 3 || bits.Count(l[0].Code) != 161 {
		t.Fatalf("Codes: %d types, the first one is %v", len(l), l[0])
	}
	u7, v7 := l[index(l, "u7")], l[index(l, "v7")]
	if added := l[index(l, "u7&v7")]; !bits.Equal(added.Code, bits.Or(u7.Code, v7.Code)) || bits.Count(added.Code) != 2 {
		t.Errorf("the type that is added: %v, for %v and %v", added, u7, v7)
	}
}

// P4.1: the errors, and the limit.
func TestCodesErrors(t *testing.T) {
	checkError := func(what string, d []api.TypeDecl, want api.Errno) {
		t.Helper()
		if l, e := closure.Codes(d); e != want || len(l) != 0 {
			t.Errorf("%s: %d types, %v, not %v", what, len(l), e, want)
		}
	}
	with := func(l ...api.TypeDecl) []api.TypeDecl { return append(subsets(20), l...) }
	checkError("no declarations", nil, api.ErrArg)
	checkError("too many declarations", make([]api.TypeDecl, api.MaxTypes+1), api.ErrTooLong)
	checkError("a name that is none", with(decl("A", "t")), api.ErrArg)
	checkError("a name twice", with(decl("a1", "t")), api.ErrExists)
	checkError("a supertype that is missing", with(decl("x", "y")), api.ErrMissing)
	checkError("two tops", with(decl("x")), api.ErrArg)
	checkError("a cycle", with(decl("x", "t", "x")), api.ErrCycle)
	checkError("many sets", subsets(20), api.ErrTooLong)
	checkError("very many sets", subsets(100), api.ErrTooLong)

	most := pairs(51)
	if l := codes(t, most); len(l) != api.MaxTypes {
		t.Errorf("%d types, not MaxTypes", len(l))
	}
	checkError("MaxTypes types and a declared one", append(most, decl("x", "t")), api.ErrTooLong)
	checkError("MaxTypes types and an added one", append(most, decl("w", "u0", "u1"), decl("x", "u0", "u1")), api.ErrTooLong)

	all := decls(decl("t"))
	for i := 1; i < api.MaxTypes; i++ {
		all = append(all, decl("x"+strconv.Itoa(i), "t"))
	}
	if l := codes(t, all); len(l) != api.MaxTypes {
		t.Errorf("%d types, not MaxTypes", len(l))
	}
	all[5].Supers, all[6].Supers = []string{"x1", "x2"}, []string{"x1", "x2"}
	checkError("MaxTypes declared types and an added one", all, api.ErrTooLong)
}

// defined computes the completed hierarchy by its definition.
func defined(d []api.TypeDecl) []api.Coded {
	var names []string
	for _, t := range d {
		names = append(names, t.Name)
	}
	slices.Sort(names)
	family := map[string]api.Coded{}
	for _, name := range names {
		var l []int
		for _, b := range poset.Below(d, name) {
			l = append(l, slices.Index(names, b))
		}
		code, _ := bits.Of(l...)
		family[show([]api.Coded{{Code: code}})] = api.Coded{Name: name, Code: code}
	}
	for before := 0; before < len(family); {
		before = len(family)
		var sets []api.Bits
		for _, x := range family {
			sets = append(sets, x.Code)
		}
		for _, a := range sets {
			for _, b := range sets {
				both := bits.And(a, b)
				key := show([]api.Coded{{Code: both}})
				if _, ok := family[key]; ok || bits.Count(both) == 0 {
					continue
				}
				var members []string
				for _, i := range bits.List(both) {
					members = append(members, names[i])
				}
				family[key] = api.Coded{Name: strings.Join(poset.Maximal(d, members), "&"), Code: both}
			}
		}
	}
	var l []api.Coded
	for _, x := range family {
		l = append(l, x)
	}
	slices.SortFunc(l, func(a, b api.Coded) int {
		return cmp.Or(cmp.Compare(bits.Count(b.Code), bits.Count(a.Code)), cmp.Compare(a.Name, b.Name))
	})
	return l
}

// P4.1: the completed hierarchy agrees with its definition, and codes are normal sets.
func TestCodesDefinition(t *testing.T) {
	added := 0
	for _, d := range hierarchies() {
		l := codes(t, d)
		if got, want := show(l), show(defined(d)); got != want {
			t.Fatalf("Codes(%v):\n%s\nnot\n%s", d, got, want)
		}
		for _, x := range l {
			if len(x.Code) == 0 || x.Code[len(x.Code)-1] == 0 {
				t.Fatalf("%v: the code of %s is %v", d, x.Name, x.Code)
			}
		}
		added += len(l) - len(d)
	}
	if added < 100 {
		t.Errorf("only %d types were added", added)
	}
}

// P4.2
func TestFind(t *testing.T) {
	l := codes(t, example())
	for _, x := range []struct {
		code api.Bits
		want int
	}{
		{api.Bits{31}, 0},
		{api.Bits{13}, 1},
		{api.Bits{14}, 2},
		{api.Bits{12}, 3},
		{api.Bits{4}, 4},
		{api.Bits{8}, 5},
		{api.Bits{12, 0, 0}, 3},
		{nil, -1},
		{api.Bits{}, -1},
		{api.Bits{0, 0}, -1},
		{api.Bits{1}, -1},
		{api.Bits{5}, -1},
		{api.Bits{63}, -1},
		{api.Bits{12, 1}, -1},
		{api.Bits{0, 12}, -1},
		{append(make(api.Bits, 100), 1), -1},
	} {
		if i := closure.Find(l, x.code); i != x.want {
			t.Errorf("Find(%v) = %d, not %d", x.code, i, x.want)
		}
	}
	for _, d := range hierarchies() {
		l := codes(t, d)
		for i, x := range l {
			if k := closure.Find(l, append(slices.Clone(x.Code), 0)); k != i {
				t.Fatalf("Find of the code of %s: %d, not %d", x.Name, k, i)
			}
		}
	}
}

func index(l []api.Coded, name string) int {
	return slices.IndexFunc(l, func(x api.Coded) bool { return x.Name == name })
}

// The example of the chapter.
func TestExample(t *testing.T) {
	l := codes(t, example())
	if i := closure.Meet(l, 1, 2); i != 3 {
		t.Errorf("Meet of a and b: %d", i)
	}
	if i := closure.Meet(l, 4, 5); i != -1 {
		t.Errorf("Meet of c and d: %d", i)
	}
	if i := closure.Join(l, 4, 5); i != 3 {
		t.Errorf("Join of c and d: %d", i)
	}
	for i, want := range [][]int{nil, {0}, {0}, {1, 2}, {3}, {3}} {
		if s := closure.Supers(l, i); !slices.Equal(s, want) {
			t.Errorf("Supers of %d: %v", i, s)
		}
	}
}

// P4.3, P4.4, P4.5 on a hierarchy with types that are added below others.
func TestMeetJoinSubsumes(t *testing.T) {
	l := codes(t, cube())
	for _, x := range []struct{ a, b, meet, join string }{
		{"x", "y", "l&m&n&xy", "t"},
		{"y", "z", "l&m&n&yz", "t"},
		{"l&m&n&xy", "l&m&n&yz", "l&m&n", "y"},
		{"l&m&n&xy", "z", "l&m&n", "t"},
		{"xy", "z", "", "t"},
		{"xy", "xz", "", "x"},
		{"xy", "l", "", "l&m&n&xy"},
		{"l", "n", "", "l&m&n"},
		{"l", "l&m&n", "l", "l&m&n"},
		{"t", "yz", "yz", "t"},
		{"n", "n", "n", "n"},
	} {
		for _, p := range [][2]string{{x.a, x.b}, {x.b, x.a}} {
			i, j := index(l, p[0]), index(l, p[1])
			if m := closure.Meet(l, i, j); m != index(l, x.meet) {
				t.Errorf("Meet of %s and %s: %d", p[0], p[1], m)
			}
			if m := closure.Join(l, i, j); m != index(l, x.join) {
				t.Errorf("Join of %s and %s: %d", p[0], p[1], m)
			}
			if closure.Subsumes(l, i, j) != (p[1] == x.meet) {
				t.Errorf("Subsumes of %s and %s", p[0], p[1])
			}
		}
	}
}

// P4.3 to P4.6: the functions agree with their definitions.
func TestDefinitions(t *testing.T) {
	for _, d := range hierarchies() {
		l := codes(t, d)
		contains := func(i, j int) bool { return len(bits.Minus(l[j].Code, l[i].Code)) == 0 }
		for i := range l {
			var supers []int
			for j := range l {
				both := bits.And(l[i].Code, l[j].Code)
				if m := closure.Meet(l, i, j); m < 0 && len(both) != 0 || m >= 0 && !bits.Equal(l[m].Code, both) {
					t.Fatalf("%v: Meet of %d and %d is %d", d, i, j, m)
				}
				least := l[0].Code
				between := false
				for k := range l {
					if contains(k, i) && contains(k, j) {
						least = bits.And(least, l[k].Code)
					}
					between = between || k != i && k != j && contains(j, k) && contains(k, i)
				}
				if m := closure.Join(l, i, j); m < 0 || !bits.Equal(l[m].Code, least) {
					t.Fatalf("%v: Join of %d and %d is %d", d, i, j, m)
				}
				if closure.Subsumes(l, i, j) != contains(i, j) {
					t.Fatalf("%v: Subsumes of %d and %d", d, i, j)
				}
				if j != i && contains(j, i) && !between {
					supers = append(supers, j)
				}
			}
			if s := closure.Supers(l, i); !slices.Equal(s, supers) {
				t.Fatalf("%v: Supers of %d are %v, not %v", d, i, s, supers)
			}
		}
	}
}

// P4.7
func TestTypes(t *testing.T) {
	for _, d := range hierarchies() {
		l := codes(t, d)
		names := map[string]bool{}
		for i, x := range l {
			if names[x.Name] || bits.Count(x.Code) == 0 || closure.Find(l, x.Code) != i || !closure.Subsumes(l, 0, i) {
				t.Fatalf("%v: the type %d is %v", d, i, x)
			}
			names[x.Name] = true
			for j := range i {
				if closure.Subsumes(l, i, j) {
					t.Fatalf("%v: %d subsumes %d", d, i, j)
				}
			}
		}
	}
}

// P4.8
func TestDeclared(t *testing.T) {
	for _, d := range hierarchies() {
		l := codes(t, d)
		for _, a := range d {
			i := index(l, a.Name)
			if i < 0 {
				t.Fatalf("%v: %s is not there", d, a.Name)
			}
			above := poset.Above(d, a.Name)
			for _, b := range d {
				if closure.Subsumes(l, index(l, b.Name), i) != slices.Contains(above, b.Name) {
					t.Fatalf("%v: %s and %s", d, b.Name, a.Name)
				}
			}
		}
	}
}

// P4.9: the laws of two types.
func TestLawsOfTwo(t *testing.T) {
	for _, d := range hierarchies() {
		l := codes(t, d)
		for i := range l {
			if closure.Meet(l, i, i) != i || closure.Join(l, i, i) != i {
				t.Fatalf("%v: %d with itself", d, i)
			}
			for j := range l {
				meet, join, below := closure.Meet(l, i, j), closure.Join(l, i, j), closure.Subsumes(l, i, j)
				if meet != closure.Meet(l, j, i) || join != closure.Join(l, j, i) || below != (meet == j) || below != (join == i) {
					t.Fatalf("%v: %d and %d", d, i, j)
				}
			}
		}
	}
}

// P4.9: the laws of three types.
func TestLawsOfThree(t *testing.T) {
	for _, d := range hierarchies()[:20] {
		l := codes(t, d)
		meet := func(i, j int) int {
			if i < 0 || j < 0 {
				return -1
			}
			return closure.Meet(l, i, j)
		}
		for i := range l {
			for j := range l {
				for k := range l {
					if meet(meet(i, j), k) != meet(i, meet(j, k)) || closure.Join(l, closure.Join(l, i, j), k) != closure.Join(l, i, closure.Join(l, j, k)) {
						t.Fatalf("%v: %d, %d and %d", d, i, j, k)
					}
				}
			}
		}
	}
}

// P4.10
func TestBounds(t *testing.T) {
	for _, d := range hierarchies() {
		l := codes(t, d)
		for i := range l {
			for j := range l {
				meet, join := closure.Meet(l, i, j), closure.Join(l, i, j)
				for k := range l {
					low := closure.Subsumes(l, i, k) && closure.Subsumes(l, j, k)
					high := closure.Subsumes(l, k, i) && closure.Subsumes(l, k, j)
					if low != (meet >= 0 && closure.Subsumes(l, meet, k)) || high != closure.Subsumes(l, k, join) {
						t.Fatalf("%v: %d and %d have the meet %d and the join %d, and there is %d", d, i, j, meet, join, k)
					}
				}
			}
		}
	}
}

// P4.11
func TestReach(t *testing.T) {
	for _, d := range hierarchies() {
		l := codes(t, d)
		for i := range l {
			reached := map[int]bool{i: true}
			for waiting := []int{i}; len(waiting) > 0; waiting = waiting[1:] {
				for _, k := range closure.Supers(l, waiting[0]) {
					reached[k] = true
					waiting = append(waiting, k)
				}
			}
			for k := range l {
				if closure.Subsumes(l, k, i) != reached[k] {
					t.Fatalf("%v: %d is above %d", d, k, i)
				}
			}
			if (len(closure.Supers(l, i)) == 0) != (i == 0) {
				t.Fatalf("%v: Supers of %d", d, i)
			}
		}
	}
}

// The completed hierarchy does not depend on the order of declarations and of supertypes.
func TestOrderOfDeclarations(t *testing.T) {
	r := rand.New(rand.NewSource(8))
	for _, d := range hierarchies() {
		other := slices.Clone(d)
		r.Shuffle(len(other), func(i, k int) { other[i], other[k] = other[k], other[i] })
		for i := range other {
			other[i].Supers = slices.Clone(other[i].Supers)
			slices.Reverse(other[i].Supers)
		}
		if a, b := show(codes(t, d)), show(codes(t, other)); a != b {
			t.Fatalf("Codes depends on the order of declarations:\n%s\n%s", a, b)
		}
	}
}

// R5: a function changes neither its arguments, nor what it returned before.
func TestImmutable(t *testing.T) {
	d := append(example(), decl("spare"))[:5]
	supers := []string{"b", "a", "z"}
	d[3].Supers = supers[:2]
	l := codes(t, d)
	kept := show(l)
	code := api.Bits{12, 0, 7}
	closure.Find(l, code[:2])
	for i := range l {
		closure.Supers(l, i)
		for j := range l {
			closure.Meet(l, i, j)
			closure.Join(l, i, j)
		}
	}
	codes(t, d)
	if show(l) != kept || !slices.Equal(code, api.Bits{12, 0, 7}) {
		t.Errorf("the types or the code were changed: %s, %v", show(l), code)
	}
	if !slices.Equal(supers, []string{"b", "a", "z"}) || d[0].Name != "t" || d[4].Name != "d" || d[:6][5].Name != "spare" {
		t.Errorf("the declarations were changed: %v, %v", supers, d)
	}
}
