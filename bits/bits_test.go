package bits_test

import (
	"math"
	"math/rand"
	"slices"
	"testing"

	"grammarlab/api"
	"grammarlab/bits"
)

func of(t *testing.T, l ...int) api.Bits {
	t.Helper()
	b, e := bits.Of(l...)
	if e != api.OK {
		t.Fatalf("Of(%v): %v", l, e)
	}
	return b
}

// P2.1
func TestOf(t *testing.T) {
	tests := []struct {
		l    []int
		want api.Bits
	}{
		{nil, nil},
		{[]int{0}, api.Bits{1}},
		{[]int{63}, api.Bits{1 << 63}},
		{[]int{64}, api.Bits{0, 1}},
		{[]int{3, 64, 3}, api.Bits{8, 1}},
		{[]int{70, 1}, api.Bits{2, 64}},
		{[]int{130, 2, 130, 0, 2, 65}, api.Bits{5, 2, 4}},
	}
	for _, x := range tests {
		l := slices.Clone(x.l)
		if b, e := bits.Of(l...); e != api.OK || !slices.Equal(b, x.want) {
			t.Errorf("Of(%v) = %v, %v", x.l, b, e)
		}
		if !slices.Equal(l, x.l) {
			t.Errorf("Of(%v) changed its argument: %v", x.l, l)
		}
	}
	last := of(t, api.MaxBit)
	if len(last) != 64 || last[63] != 1<<63 || bits.Count(last) != 1 {
		t.Errorf("Of(%d) = %v", api.MaxBit, last)
	}
}

// P2.1
func TestOfErrors(t *testing.T) {
	for _, l := range [][]int{{-1}, {api.MaxBit + 1}, {0, -1}, {-1, 0}, {5, api.MaxBit + 1, 6}, {math.MinInt}, {math.MaxInt}} {
		if b, e := bits.Of(l...); e != api.ErrRange || len(b) != 0 {
			t.Errorf("Of(%v) = %v, %v", l, b, e)
		}
	}
}

// P2.1: List accepts sets that are not normal, and elements beyond MaxBit.
func TestList(t *testing.T) {
	far := make(api.Bits, 100)
	far[0], far[99] = 1, 1<<63
	tests := []struct {
		b    api.Bits
		want []int
	}{
		{nil, nil},
		{api.Bits{}, nil},
		{api.Bits{0, 0}, nil},
		{api.Bits{1}, []int{0}},
		{api.Bits{8, 1}, []int{3, 64}},
		{api.Bits{0, 1 << 63, 0}, []int{127}},
		{api.Bits{1<<63 | 5, 2, 4}, []int{0, 2, 63, 65, 130}},
		{far, []int{0, 6399}},
	}
	for _, x := range tests {
		if l := bits.List(x.b); !slices.Equal(l, x.want) {
			t.Errorf("List(%v) = %v", x.b, l)
		}
	}
	full := bits.List(api.Bits{0, math.MaxUint64})
	for i, n := range full {
		if n != 64+i {
			t.Fatalf("List of a full word: %v", full)
		}
	}
	if len(full) != 64 {
		t.Errorf("List of a full word: %v", full)
	}
}

// P2.2
func TestAndOrMinus(t *testing.T) {
	tests := []struct {
		a, b, and, or, minus api.Bits
	}{
		{nil, nil, nil, nil, nil},
		{api.Bits{6}, nil, nil, api.Bits{6}, api.Bits{6}},
		{nil, api.Bits{6}, nil, api.Bits{6}, nil},
		{api.Bits{6}, api.Bits{3}, api.Bits{2}, api.Bits{7}, api.Bits{4}},
		{api.Bits{2, 64}, api.Bits{0, 192}, api.Bits{0, 64}, api.Bits{2, 192}, api.Bits{2}},
		{api.Bits{1, 0, 4}, api.Bits{1}, api.Bits{1}, api.Bits{1, 0, 4}, api.Bits{0, 0, 4}},
		{api.Bits{1}, api.Bits{1, 0, 4}, api.Bits{1}, api.Bits{1, 0, 4}, nil},
		{api.Bits{0, 64}, api.Bits{0, 64}, api.Bits{0, 64}, api.Bits{0, 64}, nil},
		{api.Bits{1, 2, 4}, api.Bits{8, 2, 4}, api.Bits{0, 2, 4}, api.Bits{9, 2, 4}, api.Bits{1}},
		{api.Bits{1, 2, 4}, api.Bits{3, 8, 8}, api.Bits{1}, api.Bits{3, 10, 12}, api.Bits{0, 2, 4}},
		{api.Bits{0, 0}, api.Bits{0}, nil, nil, nil},
		{api.Bits{2, 0}, api.Bits{2, 0, 0}, api.Bits{2}, api.Bits{2}, nil},
		{api.Bits{2, 0, 0}, api.Bits{1}, nil, api.Bits{3}, api.Bits{2}},
		{api.Bits{2}, api.Bits{1, 0, 0}, nil, api.Bits{3}, api.Bits{2}},
	}
	for _, x := range tests {
		if c := bits.And(x.a, x.b); !slices.Equal(c, x.and) {
			t.Errorf("And(%v, %v) = %v", x.a, x.b, c)
		}
		if c := bits.Or(x.a, x.b); !slices.Equal(c, x.or) {
			t.Errorf("Or(%v, %v) = %v", x.a, x.b, c)
		}
		if c := bits.Minus(x.a, x.b); !slices.Equal(c, x.minus) {
			t.Errorf("Minus(%v, %v) = %v", x.a, x.b, c)
		}
	}
}

// P2.3
func TestHas(t *testing.T) {
	b := of(t, 0, 63, 70)
	for i, want := range map[int]bool{0: true, 1: false, 62: false, 63: true, 64: false, 70: true, 71: false, 127: false, 128: false, 4095: false, 4096: false, -1: false, -64: false, math.MinInt: false, math.MaxInt: false} {
		if bits.Has(b, i) != want {
			t.Errorf("Has of %d: not %v", i, want)
		}
	}
	if bits.Has(nil, 0) || bits.Has(api.Bits{}, 0) || bits.Has(api.Bits{0, 0}, 64) || bits.Has(api.Bits{1, 0}, 64) || !bits.Has(api.Bits{1, 0}, 0) {
		t.Error("Has of an empty set, or of one that is not normal")
	}
	far := make(api.Bits, 100)
	far[99] = 1
	if !bits.Has(far, 6336) || bits.Has(far, 6337) || bits.Has(far, 6335) {
		t.Error("Has beyond MaxBit")
	}
}

// P2.3
func TestSubsetEqual(t *testing.T) {
	tests := []struct {
		a, b                api.Bits
		below, above, equal bool
	}{
		{nil, nil, true, true, true},
		{nil, api.Bits{0, 0}, true, true, true},
		{nil, api.Bits{1}, true, false, false},
		{api.Bits{2, 0}, api.Bits{2}, true, true, true},
		{api.Bits{2, 0}, api.Bits{2, 0, 0}, true, true, true},
		{api.Bits{2}, api.Bits{3}, true, false, false},
		{api.Bits{2}, api.Bits{2, 1}, true, false, false},
		{api.Bits{0, 1}, api.Bits{1}, false, false, false},
		{api.Bits{5}, api.Bits{3}, false, false, false},
		{api.Bits{1, 2, 4}, api.Bits{1, 2, 4}, true, true, true},
		{api.Bits{1, 2, 4}, api.Bits{1, 2, 5}, true, false, false},
		{api.Bits{2, 0}, api.Bits{3, 0, 0}, true, false, false},
	}
	for _, x := range tests {
		if bits.Subset(x.a, x.b) != x.below || bits.Subset(x.b, x.a) != x.above {
			t.Errorf("Subset of %v and %v: not %v, %v", x.a, x.b, x.below, x.above)
		}
		if bits.Equal(x.a, x.b) != x.equal || bits.Equal(x.b, x.a) != x.equal {
			t.Errorf("Equal of %v and %v: not %v", x.a, x.b, x.equal)
		}
	}
}

// P2.3
func TestCount(t *testing.T) {
	for _, x := range []struct {
		b    api.Bits
		want int
	}{{nil, 0}, {api.Bits{0, 0}, 0}, {api.Bits{1}, 1}, {api.Bits{8, 1}, 2}, {api.Bits{7, 0, 1 << 63, 0}, 4}, {api.Bits{math.MaxUint64, math.MaxUint64}, 128}} {
		if n := bits.Count(x.b); n != x.want {
			t.Errorf("Count(%v) = %d", x.b, n)
		}
	}
}

// The examples of the chapter.
func TestExamples(t *testing.T) {
	a, b := of(t, 1, 70), of(t, 70, 71)
	if c := bits.And(a, b); !slices.Equal(c, api.Bits{0, 64}) || !slices.Equal(bits.List(c), []int{70}) {
		t.Errorf("And: %v", c)
	}
	if c := bits.Or(a, b); !slices.Equal(bits.List(c), []int{1, 70, 71}) {
		t.Errorf("Or: %v", c)
	}
	if c := bits.Minus(of(t, 70), of(t, 70)); len(c) != 0 {
		t.Errorf("Minus: %v", c)
	}
	if !bits.Equal(api.Bits{2, 0}, api.Bits{2}) {
		t.Error("Equal")
	}
}

// sets returns sets that meet in their words in many ways, normal ones and others.
func sets() []api.Bits {
	l := []api.Bits{nil, {0}, {0, 0, 0}, {1}, {2, 0}, {0, 1}, {3, 1, 0}, {math.MaxUint64}, {0, math.MaxUint64}, {1 << 63, 1}}
	r := rand.New(rand.NewSource(2))
	for range 15 {
		b := make(api.Bits, r.Intn(4))
		for i := range b {
			b[i] = r.Uint64() & r.Uint64() << (r.Intn(3) * 30)
		}
		l = append(l, b)
	}
	return l
}

func isNormal(b api.Bits) bool {
	return len(b) == 0 || b[len(b)-1] != 0
}

// P2.2, P2.3: the operations agree with their definition by elements.
func TestElements(t *testing.T) {
	for _, a := range sets() {
		for _, b := range sets() {
			and, or, minus := bits.And(a, b), bits.Or(a, b), bits.Minus(a, b)
			if !isNormal(and) || !isNormal(or) || !isNormal(minus) {
				t.Fatalf("%v, %v: a result is not normal: %v, %v, %v", a, b, and, or, minus)
			}
			subset, equal, count := true, true, 0
			for i := range 320 {
				x, y := bits.Has(a, i), bits.Has(b, i)
				if bits.Has(and, i) != (x && y) || bits.Has(or, i) != (x || y) || bits.Has(minus, i) != (x && !y) {
					t.Fatalf("%v, %v: the element %d: %v, %v, %v", a, b, i, and, or, minus)
				}
				subset = subset && (!x || y)
				equal = equal && x == y
				if x {
					count++
				}
			}
			if bits.Subset(a, b) != subset || bits.Equal(a, b) != equal || bits.Count(a) != count {
				t.Fatalf("%v, %v: Subset, Equal or Count", a, b)
			}
		}
	}
}

// P2.4
func TestLawsOfTwo(t *testing.T) {
	for _, a := range sets() {
		if !bits.Equal(bits.And(a, a), a) || !bits.Equal(bits.Or(a, a), a) {
			t.Fatalf("%v: idempotence", a)
		}
		for _, b := range sets() {
			and, or, minus := bits.And(a, b), bits.Or(a, b), bits.Minus(a, b)
			if !slices.Equal(and, bits.And(b, a)) || !slices.Equal(or, bits.Or(b, a)) {
				t.Fatalf("%v, %v: commutativity", a, b)
			}
			if !bits.Equal(bits.And(a, or), a) || !bits.Equal(bits.Or(a, and), a) {
				t.Fatalf("%v, %v: absorption", a, b)
			}
			if len(bits.And(minus, b)) != 0 || !bits.Equal(bits.Or(minus, and), a) {
				t.Fatalf("%v, %v: Minus", a, b)
			}
			if bits.Count(or)+bits.Count(and) != bits.Count(a)+bits.Count(b) {
				t.Fatalf("%v, %v: Count", a, b)
			}
		}
	}
}

// P2.4
func TestLawsOfThree(t *testing.T) {
	for _, a := range sets() {
		for _, b := range sets() {
			for _, c := range sets() {
				if !slices.Equal(bits.And(bits.And(a, b), c), bits.And(a, bits.And(b, c))) || !slices.Equal(bits.Or(bits.Or(a, b), c), bits.Or(a, bits.Or(b, c))) {
					t.Fatalf("%v, %v, %v: associativity", a, b, c)
				}
				if !slices.Equal(bits.And(a, bits.Or(b, c)), bits.Or(bits.And(a, b), bits.And(a, c))) || !slices.Equal(bits.Or(a, bits.And(b, c)), bits.And(bits.Or(a, b), bits.Or(a, c))) {
					t.Fatalf("%v, %v, %v: distributivity", a, b, c)
				}
			}
		}
	}
}

// P2.5
func TestOfList(t *testing.T) {
	for _, b := range append(sets(), of(t, 0, api.MaxBit)) {
		l := bits.List(b)
		for i := 1; i < len(l); i++ {
			if l[i-1] >= l[i] {
				t.Fatalf("List(%v) does not ascend: %v", b, l)
			}
		}
		if c := of(t, l...); !bits.Equal(b, c) || !isNormal(c) {
			t.Errorf("Of of the List of %v: %v", b, c)
		}
	}
}

// R5: a function changes neither its arguments, nor their spare capacity, nor what it returned before.
func TestImmutable(t *testing.T) {
	memory := api.Bits{7, 5, 0, 9, 9}
	a, b := memory[:2], api.Bits{3, 4, 0}
	or := bits.Or(a, b)
	kept := slices.Clone(or)
	bits.And(a, b)
	bits.Minus(a, b)
	bits.Minus(b, a)
	bits.Or(or, api.Bits{0, 0, 1})
	bits.List(a)
	bits.Count(memory[:3])
	if !slices.Equal(memory, api.Bits{7, 5, 0, 9, 9}) || !slices.Equal(b, api.Bits{3, 4, 0}) || !slices.Equal(or, kept) {
		t.Errorf("something was changed: %v, %v, %v", memory, b, or)
	}
}
