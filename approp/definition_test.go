package approp_test

import (
	"math/rand"
	"slices"
	"strconv"
	"testing"

	"grammarlab/api"
	"grammarlab/approp"
	"grammarlab/bits"
	"grammarlab/closure"
	"grammarlab/poset"
	"grammarlab/text"
)

// random returns declarations of many shapes; most of their features are consistent, and some are not.
func random(n int) [][]api.TypeDecl {
	r := rand.New(rand.NewSource(6))
	var l [][]api.TypeDecl
	for i := range n {
		d := randomTypes(r, 1+i%20)
		for k := range r.Intn(4) {
			addFeature(r, d, "F"+strconv.Itoa(k))
		}
		if r.Intn(5) == 0 {
			spoil(r, d)
		}
		r.Shuffle(len(d), func(a, b int) { d[a], d[b] = d[b], d[a] })
		l = append(l, d)
	}
	return l
}

// randomTypes returns types whose names are not in their order.
func randomTypes(r *rand.Rand, n int) []api.TypeDecl {
	var d []api.TypeDecl
	few := 1 + r.Intn(4) // types that have most of the others below them, so that types are added
	for i, k := range r.Perm(n) {
		t := api.TypeDecl{Name: "n" + strconv.Itoa(k)}
		from := i
		if i <= few {
			from = min(i, 1)
		} else if r.Intn(3) > 0 {
			from = 1 + few
		}
		for _, s := range r.Perm(from)[:min(from, 1+r.Intn(3))] {
			t.Supers = append(t.Supers, d[s].Name)
		}
		d = append(d, t)
	}
	return d
}

// addFeature declares a feature for a type, and for some of its subtypes.
func addFeature(r *rand.Rand, d []api.TypeDecl, feat string) {
	intro, value := r.Intn(len(d)), d[r.Intn(len(d))].Name
	if r.Intn(2) == 0 {
		intro, value = 0, d[0].Name
	}
	low := []string{value}
	// Values at the top of the hierarchy are more likely to be consistent.
	for _, t := range d[:1+len(d)/3] {
		if slices.Contains(poset.Above(d, t.Name), value) {
			low = append(low, t.Name)
		}
	}
	for i := range d {
		if !slices.Contains(poset.Below(d, d[intro].Name), d[i].Name) || i != intro && r.Intn(3) > 0 {
			continue
		}
		if i != intro {
			value = low[r.Intn(len(low))]
		}
		d[i].Feats = append(d[i].Feats, api.FeatDecl{Feat: feat, Value: value})
	}
}

// spoil adds a feature that is likely to be wrong.
func spoil(r *rand.Rand, d []api.TypeDecl) {
	wrong := []api.FeatDecl{{Feat: "f", Value: "x"}, {Feat: "F0", Value: "n0"}, {Feat: "F1", Value: "n0"}, {Feat: "G", Value: "x"}, {Feat: "G", Value: "n0&n1"}}
	i := r.Intn(len(d))
	d[i].Feats = append(d[i].Feats, wrong[r.Intn(len(wrong))])
}

// defined computes the results by the definitions of the chapter.
func defined(d []api.TypeDecl) ([]api.Feature, [][]api.Approp, api.Errno) {
	types, e := closure.Codes(d)
	if e != api.OK {
		return nil, nil, e
	}
	if e := definedFeatures(d); e != api.OK {
		return nil, nil, e
	}
	names := allFeatures(d)
	var feats []api.Feature
	for _, name := range names {
		intro := -1
		for i, t := range types {
			if isIntro(d, t.Name, name) {
				intro = i
			}
		}
		if intro < 0 {
			return nil, nil, api.ErrIntro
		}
		feats = append(feats, api.Feature{Name: name, Intro: intro})
	}
	values := make([][]api.Approp, len(types))
	for i, t := range types {
		for f, name := range names {
			all := valuesOf(d, types, t, name)
			if len(all) == 0 {
				continue
			}
			both := all[0]
			for _, code := range all {
				both = bits.And(both, code)
			}
			if bits.Count(both) == 0 {
				return nil, nil, api.ErrValue
			}
			values[i] = append(values[i], api.Approp{Feat: f, Value: closure.Find(types, both)})
		}
	}
	return feats, values, api.OK
}

// definedFeatures examines the features of each declaration (P5.1, number 3).
func definedFeatures(d []api.TypeDecl) api.Errno {
	for _, t := range d {
		for i, f := range t.Feats {
			switch {
			case !text.Feature(f.Feat):
				return api.ErrArg
			case slices.ContainsFunc(t.Feats[:i], func(x api.FeatDecl) bool { return x.Feat == f.Feat }):
				return api.ErrExists
			case !slices.ContainsFunc(d, func(x api.TypeDecl) bool { return x.Name == f.Value }):
				return api.ErrMissing
			}
		}
	}
	return api.OK
}

func allFeatures(d []api.TypeDecl) []string {
	var l []string
	for _, t := range d {
		for _, f := range t.Feats {
			l = append(l, f.Feat)
		}
	}
	slices.Sort(l)
	return slices.Compact(l)
}

func declares(t api.TypeDecl, feat string) bool {
	return slices.ContainsFunc(t.Feats, func(f api.FeatDecl) bool { return f.Feat == feat })
}

// isIntro reports whether a type declares a feature and is a supertype of all types that do.
func isIntro(d []api.TypeDecl, name, feat string) bool {
	declared := false
	for _, t := range d {
		if !declares(t, feat) {
			continue
		}
		declared = declared || t.Name == name
		if !slices.Contains(poset.Above(d, t.Name), name) {
			return false
		}
	}
	return declared
}

// valuesOf returns the codes of the values that the declared supertypes of a type declare for a feature.
func valuesOf(d []api.TypeDecl, types []api.Coded, t api.Coded, feat string) []api.Bits {
	codeOf := func(name string) api.Bits {
		return types[slices.IndexFunc(types, func(x api.Coded) bool { return x.Name == name })].Code
	}
	var l []api.Bits
	for _, s := range d {
		for _, f := range s.Feats {
			if f.Feat == feat && bits.Subset(t.Code, codeOf(s.Name)) {
				l = append(l, codeOf(f.Value))
			}
		}
	}
	return l
}

// P5.1, P5.2, P5.3: the functions agree with the definitions.
func TestDefinition(t *testing.T) {
	count := map[api.Errno]int{}
	added := 0
	for _, d := range random(4000) {
		wantFeats, wantValues, want := defined(d)
		f, v, e := results(t, "random declarations", d)
		if e != want || !slices.Equal(f, wantFeats) || !slices.EqualFunc(v, wantValues, slices.Equal[[]api.Approp]) {
			t.Fatalf("%v:\n%v, %v, %v\nnot\n%v, %v, %v", d, f, v, e, wantFeats, wantValues, want)
		}
		count[e]++
		for i := range v {
			for _, a := range v[i] {
				if len(v) > len(d) && !text.Name(codes(t, d)[a.Value].Name) {
					added++
				}
			}
		}
	}
	for _, e := range []api.Errno{api.OK, api.ErrArg, api.ErrExists, api.ErrMissing, api.ErrIntro, api.ErrValue} {
		if count[e] < 20 {
			t.Errorf("%v occurs only %d times", e, count[e])
		}
	}
	if added < 20 {
		t.Errorf("only %d value types were added", added)
	}
}

// P5.5, P5.6, P5.7
func TestConsequences(t *testing.T) {
	for _, d := range random(500) {
		feats, values, e := results(t, "random declarations", d)
		if e != api.OK {
			continue
		}
		l := codes(t, d)
		value := func(i, f int) int {
			for _, a := range values[i] {
				if a.Feat == f {
					return a.Value
				}
			}
			return -1
		}
		for f, x := range feats {
			for i := range l {
				v := value(i, f)
				if (v >= 0) != closure.Subsumes(l, x.Intro, i) {
					t.Fatalf("%v: %s and %s", d, x.Name, l[i].Name)
				}
				for k := range l {
					if v >= 0 && closure.Subsumes(l, i, k) && (value(k, f) < 0 || !closure.Subsumes(l, v, value(k, f))) {
						t.Fatalf("%v: %s of %s and of %s", d, x.Name, l[i].Name, l[k].Name)
					}
				}
			}
			for _, y := range d {
				for _, decl := range y.Feats {
					if y.Name == l[x.Intro].Name && decl.Feat == x.Name && decl.Value != l[value(x.Intro, f)].Name {
						t.Fatalf("%v: %s of its Intro", d, x.Name)
					}
				}
			}
		}
	}
}

// The order of declarations, and of what they contain, does not matter where there is no error.
func TestOrder(t *testing.T) {
	for _, d := range random(200) {
		f, v, e := results(t, "random declarations", d)
		other := slices.Clone(d)
		slices.Reverse(other)
		for i := range other {
			other[i].Supers, other[i].Feats = slices.Clone(other[i].Supers), slices.Clone(other[i].Feats)
			slices.Reverse(other[i].Supers)
			slices.Reverse(other[i].Feats)
		}
		g, w, e2 := results(t, "in another order", other)
		if (e == api.OK) != (e2 == api.OK) || !slices.Equal(f, g) || !slices.EqualFunc(v, w, slices.Equal[[]api.Approp]) {
			t.Fatalf("%v: %v, %v, %v and %v, %v, %v", d, f, v, e, g, w, e2)
		}
	}
}

// P5.2, P5.3: nothing is kept from call to call.
func TestRepeated(t *testing.T) {
	d := decls(example)
	f, _ := approp.Features(d)
	v, _ := approp.Values(d)
	f[0].Name, v[1][0].Value = "X", 9
	g, _ := approp.Features(d)
	w, _ := approp.Values(d)
	if g[0].Name != "F" || w[1][0].Value != 2 {
		t.Errorf("a result was kept: %v, %v", g, w)
	}
}
