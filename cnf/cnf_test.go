package cnf_test

import (
	"math"
	"reflect"
	"slices"
	"testing"

	"bradawl/api"
	"bradawl/cnf"
)

// many returns n clauses that are all c.
func many(n int, c ...int) [][]int {
	return slices.Repeat([][]int{c}, n)
}

// wide returns a clause of n literals that are all l.
func wide(n, l int) []int {
	return slices.Repeat([]int{l}, n)
}

// deep returns a copy of f that is made without the package's own Copy.
func deep(f api.Formula) api.Formula {
	out := api.Formula{Vars: f.Vars}
	for _, c := range f.Clauses {
		out.Clauses = append(out.Clauses, append([]int{}, c...))
	}
	return out
}

// equal reports whether both formulas have the same clauses, literal by literal.
func equal(f, g api.Formula) bool {
	return f.Vars == g.Vars && slices.EqualFunc(f.Clauses, g.Clauses, slices.Equal[[]int])
}

// assignment returns the one with number n among those of so many variables, where the last variable changes first.
func assignment(n, vars int) []bool {
	a := make([]bool, vars)
	for i := range a {
		a[i] = n>>(vars-1-i)&1 == 1
	}
	return a
}

// satisfied tells by the definition alone which clauses a satisfies.
func satisfied(f api.Formula, a []bool) []bool {
	out := make([]bool, len(f.Clauses))
	for i, c := range f.Clauses {
		for _, l := range c {
			if l > 0 && a[l-1] || l < 0 && !a[-l-1] {
				out[i] = true
			}
		}
	}
	return out
}

// formulas returns ordinary formulas and edges of at most four variables.
func formulas() []api.Formula {
	out := []api.Formula{
		{},
		{Vars: 3},
		{Clauses: [][]int{}},
		{Clauses: [][]int{{}}},
		{Vars: 2, Clauses: [][]int{{1}, nil, {2}}},
		{Vars: 1, Clauses: [][]int{{1}}},
		{Vars: 1, Clauses: [][]int{{-1}}},
		{Vars: 1, Clauses: [][]int{{1}, {-1}}},
		{Vars: 1, Clauses: [][]int{{1, -1}}},
		{Vars: 2, Clauses: [][]int{{2, 2, 2}, {2, 2, 2}}},
		{Vars: 3, Clauses: [][]int{{-3, 2, 1}, {3}, {-1}}},
		{Vars: 4, Clauses: [][]int{{4, 3}, {-4}, {2, -3}, {1, -2}}},
		{Vars: 4, Clauses: [][]int{{1}, {2}, {3}, {4}}},
		{Vars: 4, Clauses: [][]int{{4}, {3}, {2}, {1}}},
		{Vars: 4, Clauses: [][]int{{1, 2}, {1, -2}, {-1, 3, 4}, {-1, -3}, {-4, -1}}},
	}
	// A short recurrence instead of a random source, so that every run tests the same.
	x := uint32(1)
	draw := func(n int) int {
		x = x*1664525 + 1013904223
		return int(x>>16) % n
	}
	for range 400 {
		f := api.Formula{Vars: 1 + draw(4)}
		for range draw(12) {
			c := make([]int, draw(4))
			for i := range c {
				c[i] = 1 + draw(f.Vars)
				if draw(2) == 1 {
					c[i] = -c[i]
				}
			}
			f.Clauses = append(f.Clauses, c)
		}
		out = append(out, f)
	}
	return out
}

func TestRight(t *testing.T) {
	cases := []struct {
		name string
		f    api.Formula
		want bool
	}{
		{"nothing", api.Formula{}, true},
		{"no clauses", api.Formula{Vars: 7}, true},
		{"an empty clause", api.Formula{Clauses: [][]int{{}}}, true},
		{"a nil clause", api.Formula{Vars: 1, Clauses: [][]int{nil}}, true},
		{"ordinary", api.Formula{Vars: 3, Clauses: [][]int{{1, -2}, {3}, {-3, 2, -1}}}, true},
		{"duplicates", api.Formula{Vars: 1, Clauses: [][]int{{1, 1, -1}, {1, 1, -1}}}, true},
		{"fewer than no variables", api.Formula{Vars: -1}, false},
		{"the least number of variables", api.Formula{Vars: math.MinInt}, false},
		{"a literal of fewer than no variables", api.Formula{Vars: -3, Clauses: [][]int{{1}, {-3}}}, false},
		{"as many variables as permitted", api.Formula{Vars: api.MaxVars, Clauses: [][]int{{api.MaxVars, -api.MaxVars}}}, true},
		{"one variable more", api.Formula{Vars: api.MaxVars + 1}, false},
		{"one variable more, with clauses", api.Formula{Vars: api.MaxVars + 1, Clauses: [][]int{{1}}}, false},
		{"the greatest number of variables", api.Formula{Vars: math.MaxInt}, false},
		{"zero", api.Formula{Vars: 3, Clauses: [][]int{{1, 0}}}, false},
		{"a literal of no variables", api.Formula{Clauses: [][]int{{1}}}, false},
		{"the last variable", api.Formula{Vars: 3, Clauses: [][]int{{3}, {-3}}}, true},
		{"one variable too far", api.Formula{Vars: 3, Clauses: [][]int{{4}}}, false},
		{"its negation", api.Formula{Vars: 3, Clauses: [][]int{{-4}}}, false},
		{"a wrong literal at the very end", api.Formula{Vars: 3, Clauses: [][]int{{1}, {}, {2, 3, 1, 9}}}, false},
		{"a wrong literal at the start", api.Formula{Vars: 3, Clauses: [][]int{{9, 1}, {2}}}, false},
		{"the least literal", api.Formula{Vars: 3, Clauses: [][]int{{math.MinInt}}}, false},
		{"the greatest literal", api.Formula{Vars: 3, Clauses: [][]int{{math.MaxInt}}}, false},
	}
	for _, c := range cases {
		kept := deep(c.f)
		if got := cnf.Right(c.f); got != c.want {
			t.Errorf("%s: %v", c.name, got)
		}
		if !equal(kept, c.f) {
			t.Errorf("%s: the formula was changed", c.name)
		}
	}
}

func TestRightLimits(t *testing.T) {
	cases := []struct {
		name string
		f    api.Formula
		want bool
	}{
		{"as many clauses as permitted", api.Formula{Vars: 1, Clauses: many(api.MaxClauses, 1)}, true},
		{"one clause more", api.Formula{Vars: 1, Clauses: many(api.MaxClauses+1, 1)}, false},
		{"as many empty clauses", api.Formula{Clauses: many(api.MaxClauses)}, true},
		{"one empty clause more", api.Formula{Clauses: many(api.MaxClauses + 1)}, false},
		{"as many literals in one clause", api.Formula{Vars: 1, Clauses: [][]int{wide(api.MaxLits, -1)}}, true},
		{"one literal more in one clause", api.Formula{Vars: 1, Clauses: [][]int{wide(api.MaxLits+1, -1)}}, false},
		{"as many literals in all", api.Formula{Vars: 2, Clauses: many(api.MaxClauses, 1, 2, -1, 2, 2)}, true},
		{"one literal more in all", api.Formula{Vars: 2, Clauses: append(many(api.MaxClauses-1, 1, 2, -1, 2, 2), wide(6, 1))}, false},
		{"one literal more in a last clause", api.Formula{Vars: 1, Clauses: [][]int{wide(api.MaxLits, 1), {}, {1}}}, false},
		{"no literal more in a last clause", api.Formula{Vars: 1, Clauses: [][]int{wide(api.MaxLits, 1), {}, {}}}, true},
		{"all limits at once", api.Formula{Vars: api.MaxVars, Clauses: many(api.MaxClauses, 1, -1, 5, api.MaxVars, -api.MaxVars)}, true},
	}
	for _, c := range cases {
		if got := cnf.Right(c.f); got != c.want {
			t.Errorf("%s: %v", c.name, got)
		}
	}
}

func TestClause(t *testing.T) {
	a := []bool{true, false, true}
	cases := []struct {
		c    []int
		want bool
	}{
		{nil, false}, {[]int{}, false},
		{[]int{1}, true}, {[]int{-1}, false}, {[]int{2}, false}, {[]int{-2}, true}, {[]int{3}, true}, {[]int{-3}, false},
		{[]int{-1, 2, -3}, false}, {[]int{-1, 2, 3}, true}, {[]int{1, 2, -3}, true}, {[]int{-1, -2, -3}, true},
		{[]int{2, 2, 2}, false}, {[]int{2, -2}, true}, {[]int{-1, 1}, true},
	}
	for _, c := range cases {
		kept := slices.Clone(c.c)
		if got := cnf.Clause(c.c, a); got != c.want {
			t.Errorf("Clause(%v) is %v", c.c, got)
		}
		if !slices.Equal(kept, c.c) || !slices.Equal(a, []bool{true, false, true}) {
			t.Errorf("Clause(%v) changed an argument", c.c)
		}
	}
	if cnf.Clause(nil, nil) || cnf.Clause([]int{}, []bool{}) {
		t.Error("an empty clause, without variables")
	}
	long := make([]bool, api.MaxVars)
	if cnf.Clause([]int{1, api.MaxVars}, long) || !cnf.Clause([]int{1, -api.MaxVars}, long) {
		t.Error("the last variable")
	}
}

// Clause, Satisfies and Unsatisfied are held against the definition, under each assignment.
func TestSatisfyingByDefinition(t *testing.T) {
	for _, f := range formulas() {
		kept := deep(f)
		for n := range 1 << f.Vars {
			a := assignment(n, f.Vars)
			var want []int
			for i, is := range satisfied(f, a) {
				if !is {
					want = append(want, i)
				}
				if got := cnf.Clause(f.Clauses[i], a); got != is {
					t.Errorf("Clause(%v, %v) is %v", f.Clauses[i], a, got)
				}
			}
			if got := cnf.Unsatisfied(f, a); !slices.Equal(got, want) {
				t.Errorf("Unsatisfied(%v, %v) is %v", f, a, got)
			}
			if got := cnf.Satisfies(f, a); got != (len(want) == 0) {
				t.Errorf("Satisfies(%v, %v) is %v", f, a, got)
			}
			if !equal(kept, f) || !slices.Equal(a, assignment(n, f.Vars)) {
				t.Fatalf("an argument was changed: %v, %v", f, a)
			}
		}
	}
}

func TestUnsatisfiedExamples(t *testing.T) {
	f := api.Formula{Vars: 2, Clauses: [][]int{{1}, {}, {-1, 2}, {2}, {1, -2}, {}}}
	cases := []struct {
		a    []bool
		want []int
	}{
		{[]bool{false, false}, []int{0, 1, 3, 5}},
		{[]bool{false, true}, []int{0, 1, 4, 5}},
		{[]bool{true, false}, []int{1, 2, 3, 5}},
		{[]bool{true, true}, []int{1, 5}},
	}
	for _, c := range cases {
		if got := cnf.Unsatisfied(f, c.a); !slices.Equal(got, c.want) {
			t.Errorf("Unsatisfied under %v: %v", c.a, got)
		}
	}
	if got := cnf.Unsatisfied(api.Formula{Vars: 2}, []bool{true, true}); len(got) != 0 {
		t.Errorf("of no clauses: %v", got)
	}
	if got := cnf.Unsatisfied(api.Formula{Vars: 1, Clauses: many(api.MaxClauses, 1)}, []bool{false}); len(got) != api.MaxClauses || !slices.IsSorted(got) || got[api.MaxClauses-1] != api.MaxClauses-1 {
		t.Error("of as many clauses as permitted")
	}
}

func TestSatisfiesOtherLengths(t *testing.T) {
	full := []bool{true, true, true, true, true}
	for _, f := range []api.Formula{
		{},
		{Vars: 3},
		{Vars: 3, Clauses: [][]int{{1}}},
		{Vars: 3, Clauses: [][]int{{1}, {2}, {3}}},
	} {
		for n := range full {
			if got := cnf.Satisfies(f, full[:n]); got != (n == f.Vars) {
				t.Errorf("%v with %d elements: %v", f, n, got)
			}
		}
	}
	if cnf.Satisfies(api.Formula{Vars: 1}, nil) || !cnf.Satisfies(api.Formula{}, nil) || !cnf.Satisfies(api.Formula{}, []bool{}) {
		t.Error("no elements")
	}
	long := slices.Repeat([]bool{true}, api.MaxVars+1)
	f := api.Formula{Vars: api.MaxVars, Clauses: [][]int{{api.MaxVars}}}
	if cnf.Satisfies(f, long) || !cnf.Satisfies(f, long[1:]) || cnf.Satisfies(f, long[2:]) {
		t.Error("as many variables as permitted")
	}
}

func TestSatisfiesEmptyClause(t *testing.T) {
	if cnf.Satisfies(api.Formula{Clauses: [][]int{{}}}, nil) {
		t.Error("without variables")
	}
	if cnf.Satisfies(api.Formula{Vars: 1, Clauses: [][]int{{1}, {}}}, []bool{true}) {
		t.Error("at the end")
	}
	if cnf.Satisfies(api.Formula{Vars: 1, Clauses: [][]int{nil, {1}}}, []bool{true}) {
		t.Error("at the start")
	}
}

func TestLits(t *testing.T) {
	cases := []struct {
		f    api.Formula
		want int
	}{
		{api.Formula{}, 0},
		{api.Formula{Vars: 9}, 0},
		{api.Formula{Clauses: [][]int{{}, nil}}, 0},
		{api.Formula{Vars: 2, Clauses: [][]int{{1}, {}, {2, 2, -2}}}, 4},
		{api.Formula{Vars: 3, Clauses: [][]int{{1, 2}, {-1, 3}, {-3, -2}, {-1, -1}}}, 8},
		{api.Formula{Vars: 1, Clauses: [][]int{wide(api.MaxLits, 1)}}, api.MaxLits},
		{api.Formula{Vars: 1, Clauses: many(api.MaxClauses, 1, -1, 1, 1, 1)}, api.MaxLits},
	}
	for i, c := range cases {
		if got := cnf.Lits(c.f); got != c.want {
			t.Errorf("case %d: %d", i, got)
		}
	}
}

func TestCopy(t *testing.T) {
	for _, f := range formulas() {
		kept := deep(f)
		g := cnf.Copy(f)
		if !equal(g, kept) || !equal(f, kept) {
			t.Fatalf("copy of %v: %v", kept, g)
		}
		for i, c := range g.Clauses {
			for k := range c {
				c[k] = 1000
			}
			g.Clauses[i] = nil
		}
		if !equal(f, kept) {
			t.Fatalf("the copy shares memory with %v: %v", kept, f)
		}
	}
}

// What is appended to one clause of a copy is seen neither in the formula nor in another clause.
func TestCopyAppends(t *testing.T) {
	all := []int{1, 2, 3, 4, 5, 6}
	f := api.Formula{Vars: 6, Clauses: [][]int{all[:2], all[2:2], all[2:4], all[4:]}}
	g := cnf.Copy(f)
	for _, c := range g.Clauses {
		_ = append(c, 77, 77, 77)
	}
	_ = append(g.Clauses, []int{77})
	if !slices.Equal(all, []int{1, 2, 3, 4, 5, 6}) {
		t.Errorf("the formula: %v", all)
	}
	if want := [][]int{{1, 2}, {}, {3, 4}, {5, 6}}; !slices.EqualFunc(g.Clauses, want, slices.Equal[[]int]) {
		t.Errorf("the copy: %v", g.Clauses)
	}
}

// Clauses that are one slice in the formula are several in its copy.
func TestCopySeparates(t *testing.T) {
	f := api.Formula{Vars: 2, Clauses: many(3, 1, 2)}
	g := cnf.Copy(f)
	g.Clauses[1][0] = -1
	if want := [][]int{{1, 2}, {-1, 2}, {1, 2}}; !reflect.DeepEqual(g.Clauses, want) {
		t.Errorf("the copy: %v", g.Clauses)
	}
	if f.Clauses[1][0] != 1 {
		t.Error("the formula was changed")
	}
	f.Clauses[0][1] = -2
	if g.Clauses[0][1] != 2 {
		t.Error("the copy was changed")
	}
}

func TestCopyLimits(t *testing.T) {
	f := api.Formula{Vars: api.MaxVars, Clauses: many(api.MaxClauses, 1, -1, 5, api.MaxVars, -api.MaxVars)}
	if g := cnf.Copy(f); !equal(f, g) || !cnf.Right(g) {
		t.Error("at the limits")
	}
}

// Brute is held against going over all assignments by the definition.
func TestBruteByDefinition(t *testing.T) {
	found := map[bool]int{}
	for _, f := range formulas() {
		kept := deep(f)
		var want []bool
		is := false
		for n := 0; n < 1<<f.Vars && !is; n++ {
			if a := assignment(n, f.Vars); !slices.Contains(satisfied(f, a), false) {
				want, is = a, true
			}
		}
		a, ok := cnf.Brute(f)
		if ok != is || !slices.Equal(a, want) {
			t.Errorf("Brute(%v) is %v, %v", f, a, ok)
		}
		if !equal(kept, f) {
			t.Fatalf("the formula was changed: %v", f)
		}
		found[ok]++
	}
	if found[true] < 20 || found[false] < 20 {
		t.Errorf("too few of one kind: %v", found)
	}
}

func TestBruteExamples(t *testing.T) {
	cases := []struct {
		f    api.Formula
		want []bool
	}{
		{api.Formula{Vars: 2}, []bool{false, false}},
		{api.Formula{}, []bool{}},
		{api.Formula{Vars: 2, Clauses: [][]int{{1, 2}}}, []bool{false, true}},
		{api.Formula{Vars: 3, Clauses: [][]int{{3, 1}, {-3, 2, 1}, {-2, 1}}}, []bool{true, false, false}},
		{api.Formula{Vars: 3, Clauses: [][]int{{2}}}, []bool{false, true, false}},
	}
	for _, c := range cases {
		if a, ok := cnf.Brute(c.f); !ok || !slices.Equal(a, c.want) {
			t.Errorf("Brute(%v) is %v, %v", c.f, a, ok)
		}
	}
	for _, f := range []api.Formula{
		{Clauses: [][]int{{}}},
		{Vars: 20, Clauses: [][]int{{}}},
		{Vars: 1, Clauses: [][]int{{1}, {-1}}},
		{Vars: 2, Clauses: [][]int{{1, 2}, {1, -2}, {-1, 2}, {-1, -2}}},
	} {
		if a, ok := cnf.Brute(f); ok || a != nil {
			t.Errorf("Brute(%v) is %v, %v", f, a, ok)
		}
	}
}

// Each assignment of a few variables is the answer for the formula that no other satisfies.
func TestBruteReachesEach(t *testing.T) {
	for vars := range 8 {
		for n := range 1 << vars {
			want := assignment(n, vars)
			f := api.Formula{Vars: vars}
			for i, is := range want {
				l := i + 1
				if !is {
					l = -l
				}
				f.Clauses = append(f.Clauses, []int{l})
			}
			if a, ok := cnf.Brute(f); !ok || !slices.Equal(a, want) {
				t.Errorf("Brute(%v) is %v, %v", f, a, ok)
			}
			slices.Reverse(f.Clauses)
			if a, ok := cnf.Brute(f); !ok || !slices.Equal(a, want) {
				t.Errorf("Brute(%v) is %v, %v", f, a, ok)
			}
		}
	}
}

func TestBruteTwentyVariables(t *testing.T) {
	f := api.Formula{Vars: 20}
	if a, ok := cnf.Brute(f); !ok || !slices.Equal(a, make([]bool, 20)) {
		t.Errorf("without clauses: %v, %v", a, ok)
	}
	// All variables are the same, and the last one is true: only the last assignment is left.
	for v := 1; v < 20; v++ {
		f.Clauses = append(f.Clauses, []int{-v, v + 1}, []int{v, -v - 1})
	}
	f.Clauses = append(f.Clauses, []int{20})
	if a, ok := cnf.Brute(f); !ok || !slices.Equal(a, slices.Repeat([]bool{true}, 20)) {
		t.Errorf("the last assignment: %v, %v", a, ok)
	}
	f.Clauses = append(f.Clauses, []int{-1, -20})
	if a, ok := cnf.Brute(f); ok || a != nil {
		t.Errorf("not even that: %v, %v", a, ok)
	}
	// One of both clauses fails at the last variable each time, so that all assignments are gone over.
	every := api.Formula{Vars: 20, Clauses: [][]int{{20}, {-20}}}
	if a, ok := cnf.Brute(every); ok || a != nil {
		t.Errorf("none: %v, %v", a, ok)
	}
}

func TestBruteGivesItsOwn(t *testing.T) {
	f := api.Formula{Vars: 2, Clauses: [][]int{{1, 2}}}
	a, _ := cnf.Brute(f)
	a[0], a[1] = true, false
	if b, ok := cnf.Brute(f); !ok || !slices.Equal(b, []bool{false, true}) {
		t.Errorf("a second time: %v, %v", b, ok)
	}
}

// P0 for this layer: whatever is passed, each call returns.
func TestWrongInputsReturn(t *testing.T) {
	clauses := [][][]int{
		nil, {nil}, {{}}, {{0}}, {{1}, {9}, {-9}}, {{math.MinInt}, {math.MaxInt, 0}}, {{-100001, 100001}},
	}
	shorts := [][]bool{nil, {}, {true}, {false, true, false}}
	for _, vars := range []int{math.MinInt, -1, 0, 1, 3, 20, 21, 64, api.MaxVars, api.MaxVars + 1, math.MaxInt} {
		for _, cs := range clauses {
			f := api.Formula{Vars: vars, Clauses: cs}
			cnf.Right(f)
			cnf.Lits(f)
			cnf.Copy(f)
			if a, ok := cnf.Brute(f); !ok && a != nil {
				t.Errorf("Brute(%v) is %v, %v", f, a, ok)
			}
			for _, a := range shorts {
				if cnf.Satisfies(f, a) && len(a) != vars {
					t.Errorf("Satisfies(%v, %v)", f, a)
				}
				cnf.Unsatisfied(f, a)
				for _, c := range cs {
					cnf.Clause(c, a)
				}
			}
		}
	}
}
