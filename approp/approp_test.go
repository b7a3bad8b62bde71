package approp_test

import (
	"math/rand"
	"slices"
	"strconv"
	"strings"
	"testing"

	"grammarlab/api"
	"grammarlab/approp"
	"grammarlab/closure"
)

// decls reads declarations that are separated by semicolons: a name, supertypes after <, and features with colons and their values.
func decls(s string) []api.TypeDecl {
	var l []api.TypeDecl
	for _, part := range strings.Split(s, ";") {
		var d api.TypeDecl
		for i, word := range strings.Fields(part) {
			feat, value, isFeat := strings.Cut(word, ":")
			super, isSuper := strings.CutPrefix(word, "<")
			switch {
			case i == 0:
				d.Name = word
			case isFeat:
				d.Feats = append(d.Feats, api.FeatDecl{Feat: feat, Value: value})
			case isSuper:
				d.Supers = append(d.Supers, super)
			}
		}
		l = append(l, d)
	}
	return l
}

// example is the first example of the chapter.
const example = "t; u <t; v <t; w <v; a <t F:v; b <a F:w G:t"

// wide has the added types c&d below a and b, and p&q below u and v.
const wide = "t; u <t; v <t; p <u <v; q <u <v; i <t; a <i; b <i; c <a <b; d <a <b; "

func codes(t *testing.T, d []api.TypeDecl) []api.Coded {
	t.Helper()
	l, e := closure.Codes(d)
	if e != api.OK {
		t.Fatalf("Codes(%v): %v", d, e)
	}
	return l
}

// results returns what the three functions return, which must agree in their error.
func results(t *testing.T, what string, d []api.TypeDecl) ([]api.Feature, [][]api.Approp, api.Errno) {
	t.Helper()
	e := approp.Check(d)
	f, ef := approp.Features(d)
	v, ev := approp.Values(d)
	if ef != e || ev != e {
		t.Errorf("%s: Check returns %v, Features %v, Values %v", what, e, ef, ev)
	}
	if e != api.OK && (len(f) != 0 || len(v) != 0) {
		t.Errorf("%s: with %v, Features returns %v and Values %v", what, e, f, v)
	}
	return f, v, e
}

func checkError(t *testing.T, what string, d []api.TypeDecl, want api.Errno) {
	t.Helper()
	if _, _, e := results(t, what, d); e != want {
		t.Errorf("%s: %v, not %v", what, e, want)
	}
}

// showFeatures writes features with the names of their types.
func showFeatures(l []api.Coded, f []api.Feature) string {
	var parts []string
	for _, x := range f {
		parts = append(parts, x.Name+" "+l[x.Intro].Name)
	}
	return strings.Join(parts, ", ")
}

// showValues writes the types that have features, with the names of the features and of their value types.
func showValues(l []api.Coded, f []api.Feature, v [][]api.Approp) string {
	var parts []string
	for i, x := range v {
		for k, a := range x {
			sep := ", "
			if k == 0 {
				sep = l[i].Name + ": "
			}
			if k == 0 && len(parts) > 0 {
				sep = "; " + sep
			}
			parts = append(parts, sep+f[a.Feat].Name+" "+l[a.Value].Name)
		}
	}
	return strings.Join(parts, "")
}

// features returns n different features.
func features(n int) []api.FeatDecl {
	var l []api.FeatDecl
	for i := range n {
		l = append(l, api.FeatDecl{Feat: "F" + strconv.Itoa(i), Value: "t"})
	}
	return l
}

// The examples of the chapter.
func TestExamples(t *testing.T) {
	f, v, e := results(t, "the example", decls(example))
	if want := []api.Feature{{Name: "F", Intro: 1}, {Name: "G", Intro: 3}}; e != api.OK || !slices.Equal(f, want) {
		t.Errorf("Features: %v, %v", f, e)
	}
	want := [][]api.Approp{nil, {{Feat: 0, Value: 2}}, nil, {{Feat: 0, Value: 5}, {Feat: 1, Value: 0}}, nil, nil}
	if !slices.EqualFunc(v, want, slices.Equal[[]api.Approp]) || !approp.Acyclic(v) {
		t.Errorf("Values: %v", v)
	}
	checkError(t, "u instead of w", decls(strings.Replace(example, "F:w", "F:u", 1)), api.ErrValue)
	checkError(t, "F in u as well", decls(strings.Replace(example, "u <t", "u <t F:v", 1)), api.ErrIntro)
}

// P5.1, number 1: the errors of closure.Codes come before all others.
func TestHierarchyErrors(t *testing.T) {
	bad := " f:x F:t F:t"
	for _, x := range []struct {
		s    string
		want api.Errno
	}{
		{"A" + bad, api.ErrArg},
		{"t; t <t" + bad, api.ErrExists},
		{"t" + bad + "; a <b", api.ErrMissing},
		{"t" + bad + "; a <t <t", api.ErrExists},
		{"t" + bad + "; a", api.ErrArg},
		{"t" + bad + "; a <t <a", api.ErrCycle},
		{"t; a <t; b <c F:nope; c <b; d <a F:t F:t", api.ErrCycle},
	} {
		checkError(t, x.s, decls(x.s), x.want)
	}
	checkError(t, "no declarations", nil, api.ErrArg)
	checkError(t, "too many declarations", make([]api.TypeDecl, api.MaxTypes+1), api.ErrTooLong)

	// Each type of one half is below all types of the other half but one, which gives 2^20 types.
	many := decls("t F:nope")
	for i := range 20 {
		many = append(many, api.TypeDecl{Name: "a" + strconv.Itoa(i), Supers: []string{"t"}})
	}
	for i := range 20 {
		low := api.TypeDecl{Name: "b" + strconv.Itoa(i)}
		for k := range 20 {
			if k != i {
				low.Supers = append(low.Supers, "a"+strconv.Itoa(k))
			}
		}
		many = append(many, low)
	}
	checkError(t, "too many types that are added", many, api.ErrTooLong)

	long := decls("t; a <t F:nope")
	long[0].Feats = make([]api.FeatDecl, api.MaxList+1)
	checkError(t, "more than MaxList features in a declaration", long, api.ErrTooLong)
}

// P5.1, number 2: the limit is permitted, counts different strings of all declarations, and comes before what they are.
func TestTooManyFeatures(t *testing.T) {
	d := decls("t; a <t; b <t; c <a")
	d[1].Feats = features(api.MaxFeats)
	checkError(t, "MaxFeats features", d, api.OK)
	d[1].Feats = features(api.MaxFeats + 1)
	checkError(t, "more than MaxFeats features", d, api.ErrTooLong)

	d[1].Feats = features(api.MaxFeats)
	d[3].Feats = features(api.MaxFeats)
	checkError(t, "MaxFeats features, each of them twice", d, api.OK)
	d[3].Feats = append(features(api.MaxFeats), api.FeatDecl{Feat: "G", Value: "t"})
	checkError(t, "one more in another declaration", d, api.ErrTooLong)
	d[3].Feats[api.MaxFeats].Feat = ""
	checkError(t, "one more, which is empty", d, api.ErrTooLong)
	d[3].Feats[api.MaxFeats].Feat = "F0"
	checkError(t, "one of them once more", d, api.ErrExists)

	d = decls("t nope:nope nope:nope")
	d[0].Feats = append(d[0].Feats, features(api.MaxFeats-1)...)
	checkError(t, "MaxFeats strings, with one that is no feature", d, api.ErrArg)
	d[0].Feats = append(d[0].Feats, api.FeatDecl{Feat: "Nope"})
	checkError(t, "more than MaxFeats strings, with some that are no features", d, api.ErrTooLong)

	d = decls("t")
	d[0].Feats = make([]api.FeatDecl, api.MaxList)
	for i := range d[0].Feats {
		d[0].Feats[i] = api.FeatDecl{Feat: "F", Value: "t"}
	}
	checkError(t, "MaxList times the same feature", d, api.ErrExists)
}

// P5.1, number 3: each feature of each declaration by itself, in their order.
func TestFeatureErrors(t *testing.T) {
	longest := strings.Repeat("F", api.MaxName)
	for _, x := range []struct {
		s    string
		want api.Errno
	}{
		{"t F:t", api.OK},
		{"t F-2:t A:t", api.OK},
		{"t " + longest + ":t", api.OK},
		{"t " + longest + "F:t", api.ErrArg},
		{"t :t", api.ErrArg},
		{"t f:t", api.ErrArg},
		{"t Ff:t", api.ErrArg},
		{"t 2F:t", api.ErrArg},
		{"t -F:t", api.ErrArg},
		{"t F_G:t", api.ErrArg},
		{"t F:t F:t", api.ErrExists},
		{"t F:t G:t F:t", api.ErrExists},
		{"t; a <t F:t; b <a F:t", api.OK},
		{"t F:x", api.ErrMissing},
		{"t F:", api.ErrMissing},
		{"t F:F", api.ErrMissing},
		{"t F:a; a <t", api.OK},
		// For one feature, and for several ones.
		{"t f:x", api.ErrArg},
		{"t F:t F:x", api.ErrExists},
		{"t F:x F:t", api.ErrMissing},
		{"t F:x f:t", api.ErrMissing},
		{"t F:t F:t f:t", api.ErrExists},
		{"t f:t F:t F:t", api.ErrArg},
		{"b <t F:x; a <t f:t; t F:t F:t", api.ErrMissing},
		{"a <t F:t F:t; b <t F:x; t f:t", api.ErrExists},
		// A type that is added is not declared.
		{wide + "e <t F:c&d", api.ErrMissing},
	} {
		checkError(t, x.s, decls(x.s), x.want)
	}
}

// P5.1, number 4
func TestIntroErrors(t *testing.T) {
	for _, x := range []struct {
		s    string
		want api.Errno
	}{
		{"t; a <t F:t; b <t F:t", api.ErrIntro},
		{"t; a <t F:t; b <t", api.OK},
		{"t F:t; a <t F:t; b <t F:t", api.OK},
		{"b <t F:t; a <t F:t; t F:t", api.OK},
		{"t; a <t; b <a F:t; c <a F:t", api.ErrIntro},
		{"t; a <t F:t; b <a F:t; c <a F:t", api.OK},
		{"t; a <t F:t; b <a F:t; c <t; d <c F:t", api.ErrIntro},
		{"t; a <t F:t; b <t; c <a <b F:t", api.OK},
		{"t; a <t F:t; b <t F:t; c <a <b F:t", api.ErrIntro},
		{"t; a <t F:t G:t; b <t; c <b G:t", api.ErrIntro},
		// The type that is added below a and b does not count, since it declares nothing.
		{wide + "e <c F:t; f <d F:t", api.ErrIntro},
		// Number 3 comes first.
		{"t; a <t F:t; b <t F:t; c <t G:x", api.ErrMissing},
		{"t; a <t F:t; b <t F:t; c <t G:t G:t", api.ErrExists},
		{"t; a <t F:t; b <t F:t; c <t g:t", api.ErrArg},
	} {
		checkError(t, x.s, decls(x.s), x.want)
	}
}

// P5.1, number 5
func TestValueErrors(t *testing.T) {
	for _, x := range []struct {
		s    string
		want api.Errno
	}{
		{"t; u <t; v <t; a <t F:u; b <a F:v", api.ErrValue},
		{"t; u <t; v <t; w <u <v; a <t F:u; b <a F:v", api.OK},
		{"t; u <t; v <t; a <t F:u; b <a; c <b F:v", api.ErrValue},
		{"t; u <t; a <t F:u; b <a F:t", api.OK},
		// The features of two supertypes agree by themselves, but not together.
		{"t; u <t; v <t; i <t F:t; a <i F:u; b <i F:v", api.OK},
		{"t; u <t; v <t; i <t F:t; a <i F:u; b <i F:v; c <a <b", api.ErrValue},
		{"t; u <t; v <t; i <t F:t; a <i F:u; b <i F:v; x <a; y <b; c <x <y", api.ErrValue},
		// Any two of three values have a common subtype, but not all three.
		{"t; u <t; v <t; w <t; uv <u <v; uw <u <w; vw <v <w; i <t F:t; a <i F:u; b <i F:v; c <i F:w; d <a <b <c", api.ErrValue},
		{"t; u <t; v <t; w <t; uv <u <v; uw <u <w; vw <v <w; i <t F:t; a <i F:u; b <i F:v; c <i F:w; d <a <b; e <b <c; f <a <c", api.OK},
		// A type refers to itself.
		{"t; a <t F:a; b <a F:b; c <a F:a", api.OK},
		{"t; a <t F:a; b <a F:b; c <a F:c; d <b <c", api.OK},
		{"t; a <t F:a; b <a F:b; c <b F:d; d <a", api.ErrValue},
		// Number 4 comes first, whatever the order of the features is.
		{"t; u <t; v <t; a <t F:u; b <a F:v; x <t G:t; y <t G:t", api.ErrIntro},
		{"t; u <t; v <t; a <t G:u; b <a G:v; x <t F:t; y <t F:t", api.ErrIntro},
	} {
		checkError(t, x.s, decls(x.s), x.want)
	}
}

// P5.2, P5.3
func TestFeaturesAndValues(t *testing.T) {
	for _, x := range []struct{ s, feats, values string }{
		{"t", "", ""},
		{"t F:t", "F t", "t: F t"},
		{"t G:t F:t F-1:t", "F t, F-1 t, G t", "t: F t, F-1 t, G t"},
		{"t; a <t G:t; b <a F:a", "F b, G a", "a: G t; b: F a, G t"},
		{"b <a F:t; a <t F:t; t", "F a", "a: F t; b: F t"},
		{"t; u <t; v <u; a <t F:u; b <a; c <b F:v; d <c", "F a", "a: F u; b: F u; c: F v; d: F v"},
		{"t; u <t; v <t; w <u <v; a <t F:u; b <a F:v", "F a", "a: F u; b: F w"},
		{"t; u <t; a <t F:u; b <a F:t", "F a", "a: F u; b: F u"},
		{"t; u <t; v <t; w <u <v; i <t F:t; a <i F:u; b <i F:v; c <a <b", "F i", "i: F t; a: F u; b: F v; c: F w"},
		{"t; u <t; v <t; i <t F:t; j <t G:t; a <i F:u; b <j G:v; c <a <b", "F i, G j", "i: F t; j: G t; a: F u; b: G v; c: F u, G v"},
		// Types that are added inherit features, and are value types.
		{wide, "", ""},
		{strings.Replace(wide, "i <t; a <i; b <i", "i <t F:t; a <i F:u; b <i F:v", 1), "F i", "i: F t; a: F u; b: F v; c&d: F p&q; c: F p&q; d: F p&q"},
		{strings.Replace(wide, "i <t; a <i; b <i", "i <t F:t G:i; a <i F:u; b <i", 1), "F i, G i", "i: F t, G i; a: F u, G i; b: F t, G i; c&d: F u, G i; c: F u, G i; d: F u, G i"},
		{strings.Replace(wide, "a <i", "a <i F:p", 1), "F a", "a: F p; c&d: F p; c: F p; d: F p"},
	} {
		d := decls(strings.TrimSuffix(x.s, "; "))
		f, v, e := results(t, x.s, d)
		l := codes(t, d)
		if e != api.OK || len(v) != len(l) {
			t.Errorf("%s: %v, %d lists for %d types", x.s, e, len(v), len(l))
			continue
		}
		if got := showFeatures(l, f); got != x.feats {
			t.Errorf("%s: Features returns %s, not %s", x.s, got, x.feats)
		}
		if got := showValues(l, f, v); got != x.values {
			t.Errorf("%s: Values returns %s, not %s", x.s, got, x.values)
		}
	}
}

// P5.2, P5.3: as many types and features as there may be.
func TestLimits(t *testing.T) {
	d := decls("t")
	for i := 1; i < api.MaxTypes; i++ {
		d = append(d, api.TypeDecl{Name: "x" + strconv.Itoa(i), Supers: []string{d[i-1].Name}})
	}
	for i := range d {
		for _, f := range features(api.MaxFeats) {
			f.Value = d[i].Name
			d[i].Feats = append(d[i].Feats, f)
		}
	}
	f, v, e := results(t, "a chain", d)
	if e != api.OK || len(f) != api.MaxFeats || len(v) != api.MaxTypes {
		t.Fatalf("%v, %d features, %d types", e, len(f), len(v))
	}
	for i, l := range v {
		for k, a := range l {
			if len(l) != api.MaxFeats || a != (api.Approp{Feat: k, Value: i}) {
				t.Fatalf("type %d has %v", i, l)
			}
		}
	}
}

// P5.4
func TestAcyclic(t *testing.T) {
	to := func(values ...int) []api.Approp {
		var l []api.Approp
		for f, x := range values {
			l = append(l, api.Approp{Feat: f, Value: x})
		}
		return l
	}
	for i, x := range []struct {
		v    [][]api.Approp
		want bool
	}{
		{nil, true},
		{[][]api.Approp{}, true},
		{[][]api.Approp{nil, {}, nil}, true},
		{[][]api.Approp{nil, to(1)}, false},
		{[][]api.Approp{to(0)}, false},
		{[][]api.Approp{to(1), to(2), nil}, true},
		{[][]api.Approp{nil, to(0), to(1)}, true},
		{[][]api.Approp{to(1), to(2), to(0)}, false},
		{[][]api.Approp{to(1), to(0)}, false},
		{[][]api.Approp{to(1, 2), to(3), to(3), nil}, true},
		{[][]api.Approp{to(1, 2), to(3), to(3), to(1)}, false},
		{[][]api.Approp{to(1, 1, 1), nil}, true},
		{[][]api.Approp{to(1, 1), to(0, 0)}, false},
		// A cycle to which nothing leads, and one from which something hangs.
		{[][]api.Approp{nil, to(0), to(3), to(2)}, false},
		{[][]api.Approp{to(1), to(0, 2), to(3), nil}, false},
		{[][]api.Approp{to(1), to(2), to(3), to(3)}, false},
		// Features do not matter.
		{[][]api.Approp{{{Feat: -1, Value: 1}, {Feat: 7, Value: 1}}, nil}, true},
		{[][]api.Approp{{{Feat: 9, Value: 1}}, {{Feat: -9, Value: 0}}}, false},
	} {
		if got := approp.Acyclic(x.v); got != x.want {
			t.Errorf("case %d, %v: %v", i, x.v, got)
		}
	}
	long := make([][]api.Approp, 1<<20)
	for i := range long[1:] {
		long[i] = to(i + 1)
	}
	if !approp.Acyclic(long) {
		t.Error("a long chain has a cycle")
	}
	long[len(long)-1] = to(len(long) / 2)
	if approp.Acyclic(long) {
		t.Error("a long chain that leads back has no cycle")
	}
}

// P5.4: Acyclic agrees with a search for a type that can be reached from itself.
func TestAcyclicDefinition(t *testing.T) {
	r := rand.New(rand.NewSource(5))
	count := map[bool]int{}
	for range 500 {
		n := 1 + r.Intn(7)
		v := make([][]api.Approp, n)
		reach := make([][]bool, n)
		for i := range v {
			reach[i] = make([]bool, n)
			for range r.Intn(3) {
				k := r.Intn(n)
				v[i] = append(v[i], api.Approp{Feat: r.Intn(4), Value: k})
				reach[i][k] = true
			}
		}
		want := true
		for range n {
			for i := range n {
				for k := range n {
					for m := range n {
						reach[i][m] = reach[i][m] || reach[i][k] && reach[k][m]
					}
				}
				want = want && !reach[i][i]
			}
		}
		if approp.Acyclic(v) != want {
			t.Fatalf("%v: not %v", v, want)
		}
		count[want]++
	}
	if count[true] < 50 || count[false] < 50 {
		t.Errorf("too few of one kind: %v", count)
	}
}

// R5: arguments and earlier results are not modified.
func TestImmutable(t *testing.T) {
	d := append(decls(example), decls("spare")...)[:6]
	feats := []api.FeatDecl{{Feat: "G", Value: "t"}, {Feat: "F", Value: "w"}, {Feat: "Z", Value: "z"}}
	d[5].Feats = feats[:2]
	before := slices.Clone(feats)
	f, v, _ := results(t, "the example", d)
	kept := showFeatures(codes(t, d), f) + showValues(codes(t, d), f, v)
	results(t, "the example again", d)
	approp.Acyclic(v)
	if now := showFeatures(codes(t, d), f) + showValues(codes(t, d), f, v); now != kept {
		t.Errorf("earlier results were changed: %s, not %s", now, kept)
	}
	if !slices.Equal(feats, before) || d[0].Name != "t" || d[5].Name != "b" || d[:7][6].Name != "spare" {
		t.Errorf("the declarations were changed: %v, %v", feats, d)
	}
}

// P5.8, for every kind of hierarchy.
func TestWithoutFeatures(t *testing.T) {
	for _, d := range random(100) {
		for i := range d {
			d[i].Feats = nil
		}
		f, v, e := results(t, "without features", d)
		l, want := closure.Codes(d)
		if e != want || len(f) != 0 || len(v) != len(l) || !approp.Acyclic(v) {
			t.Fatalf("%v: %v, %v, %v", d, f, v, e)
		}
		for _, x := range v {
			if len(x) != 0 {
				t.Fatalf("%v: Values is %v", d, v)
			}
		}
	}
	for _, s := range []string{"t; u", "t; t", "t; a <b", "t; a <a", "T"} {
		d := decls(s)
		_, e := closure.Codes(d)
		if e == api.OK {
			t.Errorf("%s: no error", s)
		}
		checkError(t, s, d, e)
	}
}
