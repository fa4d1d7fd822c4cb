package lit_test

import (
	"math"
	"slices"
	"testing"

	"bradawl/api"
	"bradawl/lit"
)

// wild are numbers that are literals of few formulas or of none.
var wild = []int{
	math.MinInt, math.MinInt + 1, math.MinInt32, -200001, -100001, -100000, -3, -2, -1,
	0, 1, 2, 3, 99999, 100000, 100001, 199999, 200000, math.MaxInt32, math.MaxInt - 1, math.MaxInt,
}

func TestRight(t *testing.T) {
	cases := []struct {
		l, vars int
		want    bool
	}{
		{1, 1, true}, {-1, 1, true}, {2, 1, false}, {-2, 1, false},
		{3, 5, true}, {-3, 5, true}, {5, 5, true}, {-5, 5, true}, {6, 5, false}, {-6, 5, false},
		{0, 0, false}, {1, 0, false}, {-1, 0, false},
		{0, 1, false}, {0, 5, false}, {0, api.MaxVars, false}, {0, math.MaxInt, false},
		{0, -1, false}, {1, -1, false}, {-1, -1, false}, {3, -5, false}, {-3, -5, false}, {-5, -5, false},
		{100000, api.MaxVars, true}, {-100000, api.MaxVars, true},
		{99999, 99999, true}, {100000, 99999, false}, {-100000, 99999, false},
		{100001, api.MaxVars, false}, {-100001, api.MaxVars, false},
		{100000, 100001, true}, {-100000, 100001, true}, {100001, 100001, false}, {-100001, 100001, false},
		{100000, math.MaxInt, true}, {-100000, math.MaxInt, true},
		{100001, math.MaxInt, false}, {-100001, math.MaxInt, false}, {7, math.MaxInt, true},
		{math.MaxInt, math.MaxInt, false}, {math.MinInt, math.MaxInt, false},
		{math.MinInt, math.MinInt, false}, {math.MaxInt, math.MinInt, false}, {1, math.MinInt, false},
	}
	for _, c := range cases {
		if got := lit.Right(c.l, c.vars); got != c.want {
			t.Errorf("Right(%d, %d) is %v", c.l, c.vars, got)
		}
	}
}

// The literals of n variables are counted, so that none is missing and none too many.
func TestRightCounts(t *testing.T) {
	for _, vars := range []int{-2, 0, 1, 2, 17, api.MaxVars - 1, api.MaxVars, api.MaxVars + 1, 2 * api.MaxVars} {
		n := 0
		for l := -api.MaxVars - 10; l <= api.MaxVars+10; l++ {
			if lit.Right(l, vars) {
				n++
			}
		}
		if want := 2 * max(0, min(vars, api.MaxVars)); n != want {
			t.Errorf("%d literals of %d variables", n, vars)
		}
	}
}

func TestVar(t *testing.T) {
	for v := 1; v <= api.MaxVars; v++ {
		if lit.Var(v) != v || lit.Var(-v) != v {
			t.Fatalf("Var of %d and %d: %d, %d", v, -v, lit.Var(v), lit.Var(-v))
		}
	}
}

func TestIndexExamples(t *testing.T) {
	for i, l := range []int{1, -1, 2, -2, 3, -3, 4, -4} {
		if lit.Index(l) != i {
			t.Errorf("Index(%d) is %d", l, lit.Index(l))
		}
		if lit.At(i) != l {
			t.Errorf("At(%d) is %d", i, lit.At(i))
		}
	}
	if lit.Index(api.MaxVars) != 199998 || lit.Index(-api.MaxVars) != 199999 {
		t.Error("Index of the last literals")
	}
	if lit.At(199998) != api.MaxVars || lit.At(199999) != -api.MaxVars {
		t.Error("At of the last indices")
	}
}

// Every index has one literal, and every literal one index.
func TestIndexAndAt(t *testing.T) {
	for i := range 2 * api.MaxVars {
		l := lit.At(i)
		if !lit.Right(l, api.MaxVars) || lit.Index(l) != i {
			t.Fatalf("At(%d) is %d, with the index %d", i, l, lit.Index(l))
		}
	}
	for v := 1; v <= api.MaxVars; v++ {
		if lit.Index(v) != 2*(v-1) || lit.Index(-v) != 2*(v-1)+1 {
			t.Fatalf("Index of %d and %d: %d, %d", v, -v, lit.Index(v), lit.Index(-v))
		}
		if lit.At(lit.Index(v)) != v || lit.At(lit.Index(-v)) != -v {
			t.Fatalf("At of the indices of %d and %d", v, -v)
		}
	}
}

func TestHolds(t *testing.T) {
	a := []bool{false, true, true, false}
	kept := slices.Clone(a)
	for l, want := range map[int]bool{1: false, -1: true, 2: true, -2: false, 3: true, -3: false, 4: false, -4: true} {
		if got := lit.Holds(l, a); got != want {
			t.Errorf("Holds(%d) is %v", l, got)
		}
	}
	if !slices.Equal(a, kept) {
		t.Error("the assignment was changed")
	}
}

// Of a literal and its negation exactly one holds, whatever else the assignment states.
func TestHoldsEdges(t *testing.T) {
	for _, is := range []bool{false, true} {
		if one := []bool{is}; lit.Holds(1, one) != is || lit.Holds(-1, one) == is {
			t.Errorf("one variable that is %v", is)
		}
		a := make([]bool, api.MaxVars)
		a[api.MaxVars-1] = is
		if lit.Holds(api.MaxVars, a) != is || lit.Holds(-api.MaxVars, a) == is {
			t.Errorf("the last variable is %v", is)
		}
		if lit.Holds(api.MaxVars-1, a) || !lit.Holds(-api.MaxVars+1, a) {
			t.Error("the last variable but one")
		}
	}
	// More elements than the variable needs have no effect.
	if !lit.Holds(1, []bool{true, false, false}) || lit.Holds(-1, []bool{true, false, false}) {
		t.Error("a longer assignment")
	}
}

func TestCompare(t *testing.T) {
	row := []int{1, -1, 2, -2, 3, -3, 4, 99999, -99999, api.MaxVars, -api.MaxVars}
	for i, x := range row {
		for k, y := range row {
			want := 0
			if i < k {
				want = -1
			}
			if i > k {
				want = 1
			}
			if got := lit.Compare(x, y); got != want {
				t.Errorf("Compare(%d, %d) is %d", x, y, got)
			}
		}
	}
}

func TestCompareSorts(t *testing.T) {
	l := []int{-3, 2, -1, 3, 1, -2}
	slices.SortFunc(l, lit.Compare)
	if want := []int{1, -1, 2, -2, 3, -3}; !slices.Equal(l, want) {
		t.Errorf("sorted: %v", l)
	}
}

// P0 for this layer: whatever is passed, each call returns.
func TestWrongInputsReturn(t *testing.T) {
	short := [][]bool{nil, {}, {true}, {false, true}}
	for _, x := range wild {
		lit.Var(x)
		lit.Index(x)
		lit.At(x)
		for _, a := range short {
			lit.Holds(x, a)
		}
		for _, y := range wild {
			lit.Right(x, y)
			if c := lit.Compare(x, y); c < -1 || c > 1 {
				t.Errorf("Compare(%d, %d) is %d", x, y, c)
			}
		}
	}
}
