package local_test

import (
	"math"
	"slices"
	"testing"

	"bradawl/api"
	"bradawl/local"
)

// extremes are numbers that are no variables and no indices of any small state.
var extremes = []int{
	math.MinInt, math.MinInt + 1, math.MinInt32, -1 << 32, -200001, -200000, -100001, -100000, -99999, -1000,
	1000, 99999, 100000, 100001, 199999, 200000, 200001, math.MaxInt32, 1 << 32, 1<<32 + 1, math.MaxInt - 1, math.MaxInt,
}

// A recurrence stands in for a random source, so that every run tests the same.
type recurrence uint32

// below returns a number from 0 to n - 1.
func (r *recurrence) below(n int) int {
	*r = *r*1664525 + 1013904223
	return int(*r>>8) % n
}

// formula returns a formula of some variables, with short clauses, in which literals may come twice and with their negations.
func (r *recurrence) formula(vars, clauses, longest int) api.Formula {
	f := api.Formula{Vars: vars}
	for range clauses {
		var c []int
		for range r.below(longest + 1) {
			if vars > 0 {
				c = append(c, (1+r.below(vars))*(1-2*r.below(2)))
			}
		}
		f.Clauses = append(f.Clauses, c)
	}
	return f
}

// assignment returns an assignment.
func (r *recurrence) assignment(vars int) []bool {
	a := make([]bool, vars)
	for i := range a {
		a[i] = r.below(2) == 1
	}
	return a
}

// A model is a state by the chapter's words.
type model struct {
	a, best       []bool
	clauses       [][]int
	fewest, flips int
}

// key orders literals: 1, -1, 2, -2, and so on.
func key(l int) int {
	if l < 0 {
		return -2*l + 1
	}
	return 2 * l
}

// normal returns the normal form of a clause, and whether it is one that counts.
func normal(c []int) ([]int, bool) {
	var out []int
	for _, l := range c {
		if slices.Contains(c, -l) {
			return nil, false
		}
		if !slices.Contains(out, l) {
			out = append(out, l)
		}
	}
	slices.SortFunc(out, func(x, y int) int { return key(x) - key(y) })
	return out, true
}

// newModel is New, of as many values as variables.
func newModel(f api.Formula, a []bool) *model {
	m := &model{a: slices.Clone(a), best: slices.Clone(a)}
	for _, c := range f.Clauses {
		if form, counts := normal(c); counts {
			m.clauses = append(m.clauses, form)
		}
	}
	m.fewest = len(m.row())
	return m
}

// holding returns which literals of a clause hold.
func (m *model) holding(c []int) []int {
	var out []int
	for _, l := range c {
		if m.a[max(l, -l)-1] == (l > 0) {
			out = append(out, l)
		}
	}
	return out
}

// row returns the clauses that are not satisfied, in ascending order.
func (m *model) row() []int {
	var out []int
	for i, c := range m.clauses {
		if len(m.holding(c)) == 0 {
			out = append(out, i)
		}
	}
	return out
}

// breaks is Break.
func (m *model) breaks(v int) int {
	n := 0
	for _, c := range m.clauses {
		if h := m.holding(c); len(h) == 1 && max(h[0], -h[0]) == v {
			n++
		}
	}
	return n
}

// makes is Make.
func (m *model) makes(v int) int {
	n := 0
	for _, i := range m.row() {
		if slices.Contains(m.clauses[i], v) || slices.Contains(m.clauses[i], -v) {
			n++
		}
	}
	return n
}

// flip is Flip.
func (m *model) flip(v int) bool {
	if v < 1 || v > len(m.a) {
		return false
	}
	m.a[v-1] = !m.a[v-1]
	m.flips++
	if n := len(m.row()); n < m.fewest {
		m.best, m.fewest = slices.Clone(m.a), n
	}
	return true
}

// both returns a state and its model.
func both(t *testing.T, f api.Formula, a []bool) (*local.State, *model) {
	t.Helper()
	s, e := local.New(f, a)
	if e != api.OK || s == nil {
		t.Fatalf("New: %v, %v", s, e)
	}
	return s, newModel(f, a)
}

// flip performs Flip on both.
func flip(t *testing.T, s *local.State, m *model, v int) {
	t.Helper()
	if got, want := s.Flip(v), m.flip(v); got != want {
		t.Fatalf("Flip(%d) is %v", v, got)
	}
}

// rowAgrees holds the row, of which the order may be any, against its model.
func rowAgrees(t *testing.T, s *local.State, m *model) {
	t.Helper()
	var row []int
	for i := range s.Unsatisfied() {
		row = append(row, s.Row(i))
	}
	slices.Sort(row)
	if !slices.Equal(row, m.row()) {
		t.Fatalf("the row is %v, not %v", row, m.row())
	}
	for _, i := range append([]int{-1, -2, len(row), len(row) + 1, len(m.clauses), len(m.clauses) + 1}, extremes...) {
		if (i < 0 || i >= len(row)) && s.Row(i) != -1 {
			t.Fatalf("Row(%d) of %d is %d", i, len(row), s.Row(i))
		}
	}
}

// clauseAgrees holds what is told of a number as a clause against the model.
func clauseAgrees(t *testing.T, s *local.State, m *model, i int) {
	t.Helper()
	var want []int
	if i >= 0 && i < len(m.clauses) {
		want = m.clauses[i]
	}
	if got := s.Clause(i); !slices.Equal(got, want) {
		t.Fatalf("Clause(%d) is %v, not %v", i, got, want)
	}
	if got := s.Holding(i); got != len(m.holding(want)) {
		t.Fatalf("Holding(%d) is %d, not %d", i, got, len(m.holding(want)))
	}
}

// variableAgrees holds what is told of a number as a variable against the model.
func variableAgrees(t *testing.T, s *local.State, m *model, v int) {
	t.Helper()
	value, breaks, makes := false, 0, 0
	if v >= 1 && v <= len(m.a) {
		value, breaks, makes = m.a[v-1], m.breaks(v), m.makes(v)
	}
	if s.Value(v) != value || s.Break(v) != breaks || s.Make(v) != makes {
		t.Fatalf("%d is %v, with break %d and make %d, not %v, %d and %d", v, s.Value(v), s.Break(v), s.Make(v), value, breaks, makes)
	}
}

// agree holds all that a state tells against its model.
func agree(t *testing.T, s *local.State, m *model) {
	t.Helper()
	if s.Clauses() != len(m.clauses) || s.Unsatisfied() != len(m.row()) || s.Flips() != m.flips {
		t.Fatalf("%d of %d clauses, not %d of %d, after %d flips of %d", s.Unsatisfied(), s.Clauses(), len(m.row()), len(m.clauses), s.Flips(), m.flips)
	}
	if got := s.Assignment(); !slices.Equal(got, m.a) {
		t.Fatalf("the assignment is %v, not %v", got, m.a)
	}
	if a, n := s.Best(); !slices.Equal(a, m.best) || n != m.fewest {
		t.Fatalf("the best one is %v with %d, not %v with %d", a, n, m.best, m.fewest)
	}
	rowAgrees(t, s, m)
	for i := -2; i <= len(m.clauses)+2; i++ {
		clauseAgrees(t, s, m, i)
	}
	for v := -len(m.a) - 2; v <= len(m.a)+2; v++ {
		variableAgrees(t, s, m, v)
	}
}

// extremesAgree holds what is told of numbers that are nothing against the model.
func extremesAgree(t *testing.T, s *local.State, m *model) {
	t.Helper()
	for _, x := range extremes {
		clauseAgrees(t, s, m, x)
		variableAgrees(t, s, m, x)
		flip(t, s, m, x)
	}
	agree(t, s, m)
}

func TestExample(t *testing.T) {
	s, e := local.New(api.Formula{Vars: 2, Clauses: [][]int{{1, 2}, {-1}}}, []bool{false, false})
	if e != api.OK || s.Unsatisfied() != 1 || s.Row(0) != 0 || s.Make(1) != 1 || s.Break(1) != 1 || s.Make(2) != 1 || s.Break(2) != 0 {
		t.Error(e, s.Unsatisfied(), s.Make(1), s.Break(1))
	}
}

// P14.1: New returns ErrArg, and no state, exactly for another number of elements than of variables.
func TestNumberOfElements(t *testing.T) {
	for vars := range 5 {
		f := api.Formula{Vars: vars, Clauses: [][]int{{}}}
		for n := range 8 {
			s, e := local.New(f, make([]bool, n))
			if (e == api.OK) != (n == vars) || (s == nil) != (n != vars) || (e != api.OK && e != api.ErrArg) {
				t.Errorf("%d of %d: %v, %v", n, vars, s, e)
			}
		}
	}
	if s, e := local.New(api.Formula{Vars: 1}, nil); s != nil || e != api.ErrArg {
		t.Error(s, e)
	}
}

// P14.1: a formula without variables, or without clauses, has a state.
func TestEmpty(t *testing.T) {
	s, m := both(t, api.Formula{}, nil)
	agree(t, s, m)
	extremesAgree(t, s, m)
	s, m = both(t, api.Formula{Clauses: [][]int{{}, {}}}, []bool{})
	agree(t, s, m)
	extremesAgree(t, s, m)
	if a, n := s.Best(); len(a) != 0 || n != 2 || s.Unsatisfied() != 2 || s.Flip(1) {
		t.Error(a, n)
	}
	s, m = both(t, api.Formula{Vars: 2}, []bool{true, false})
	flip(t, s, m, 1)
	flip(t, s, m, 2)
	agree(t, s, m)
	if a, n := s.Best(); !slices.Equal(a, []bool{true, false}) || n != 0 || s.Flips() != 2 || s.Clauses() != 0 {
		t.Error(a, n)
	}
}

// P14.1: the clauses are those in normal form without tautologies, in order, and equal ones are several.
func TestClauses(t *testing.T) {
	f := api.Formula{Vars: 3, Clauses: [][]int{{3, -1, 3}, {2, -2}, {}, {-3, 1, 2}, {1, -3, -1}, {2, 1, -3}, {-2, -2}}}
	s, m := both(t, f, []bool{true, false, true})
	agree(t, s, m)
	want := [][]int{{-1, 3}, {}, {1, 2, -3}, {1, 2, -3}, {-2}}
	if s.Clauses() != len(want) {
		t.Fatal(s.Clauses())
	}
	for i, c := range want {
		if !slices.Equal(s.Clause(i), c) {
			t.Errorf("Clause(%d) is %v", i, s.Clause(i))
		}
	}
	// The two equal clauses count twice.
	if s.Break(1) != 2 || s.Make(1) != 0 || s.Unsatisfied() != 1 || s.Row(0) != 1 {
		t.Error(s.Break(1), s.Make(1), s.Unsatisfied())
	}
	flip(t, s, m, 1)
	agree(t, s, m)
	if s.Make(1) != 2 || s.Make(2) != 2 || s.Make(3) != 2 || s.Break(1) != 0 || s.Unsatisfied() != 3 {
		t.Error(s.Make(1), s.Break(1), s.Unsatisfied())
	}
	extremesAgree(t, s, m)
}

// P14.1: break and make of a clause with each number of literals that hold.
func TestBreakAndMake(t *testing.T) {
	s, m := both(t, api.Formula{Vars: 3, Clauses: [][]int{{1, -2, 3}}}, []bool{false, true, false})
	cases := []struct{ flip, holding, unsatisfied, make1, break1, break2, break3 int }{
		{1, 1, 0, 0, 1, 0, 0}, {2, 2, 0, 0, 0, 0, 0}, {3, 3, 0, 0, 0, 0, 0}, {1, 2, 0, 0, 0, 0, 0},
		{2, 1, 0, 0, 0, 0, 1}, {3, 0, 1, 1, 0, 0, 0}, {2, 1, 0, 0, 0, 1, 0}, {2, 0, 1, 1, 0, 0, 0},
	}
	agree(t, s, m)
	for _, c := range cases {
		flip(t, s, m, c.flip)
		agree(t, s, m)
		if s.Holding(0) != c.holding || s.Unsatisfied() != c.unsatisfied || s.Make(1) != c.make1 {
			t.Errorf("%v: %d hold, make %d", c, s.Holding(0), s.Make(1))
		}
		if s.Break(1) != c.break1 || s.Break(2) != c.break2 || s.Break(3) != c.break3 {
			t.Errorf("%v: breaks %d, %d, %d", c, s.Break(1), s.Break(2), s.Break(3))
		}
	}
}

// P14.1: Flip of something that is no variable returns false, and changes nothing.
func TestFlipOfNothing(t *testing.T) {
	s, m := both(t, api.Formula{Vars: 2, Clauses: [][]int{{1, 2}, {-1}, {-2}}}, []bool{false, true})
	for _, v := range append([]int{0, -1, -2, 3, -3, 4}, extremes...) {
		if s.Flip(v) || s.Value(v) || s.Break(v) != 0 || s.Make(v) != 0 || s.Flips() != 0 {
			t.Errorf("%d was flipped", v)
		}
		agree(t, s, m)
	}
}

// P14.1: Best is the first one of those that are equally good, also if the first one was the one of New.
func TestBestIsTheFirst(t *testing.T) {
	f := api.Formula{Vars: 3, Clauses: [][]int{{1}, {-1}, {2, 3}}}
	s, m := both(t, f, []bool{false, true, false})
	for _, v := range []int{1, 3, 1, 2, 1} {
		flip(t, s, m, v)
		agree(t, s, m)
		if a, n := s.Best(); !slices.Equal(a, []bool{false, true, false}) || n != 1 {
			t.Errorf("%v with %d", a, n)
		}
	}
	s, m = both(t, f, []bool{false, false, false})
	for _, v := range []int{1, 3, 1, 2, 3, 2, 3, 2, 1} {
		flip(t, s, m, v)
		agree(t, s, m)
	}
	if a, n := s.Best(); !slices.Equal(a, []bool{true, false, true}) || n != 1 {
		t.Errorf("%v with %d", a, n)
	}
}

// P14.1: Best stays the same however many flips come after it, and one that is better still takes its place.
func TestBestLongAgo(t *testing.T) {
	f := api.Formula{Vars: 3, Clauses: [][]int{{1, 2}, {-1, 3}, {-3}, {-2, 3, 1}, {2}}}
	for before := range 20 {
		s, m := both(t, f, []bool{true, false, false})
		for i := range before {
			// Neither of these makes it better.
			flip(t, s, m, []int{1, 3, 1, 3}[i%4])
			agree(t, s, m)
		}
		for i := range 20 {
			flip(t, s, m, []int{2, 1, 3, 1, 2, 3}[i%6])
			agree(t, s, m)
		}
	}
}

// P14.1: what a formula of two variables has, for all of two clauses, all assignments, and all flips up to three.
func TestAllSmall(t *testing.T) {
	all := [][]int{{}, {1}, {-1}, {2}, {-2}, {1, 2}, {1, -2}, {-1, 2}, {-1, -2}, {1, -1}, {2, 1, 2}}
	for _, c := range all {
		for _, d := range all {
			f := api.Formula{Vars: 2, Clauses: [][]int{c, d}}
			for x := range 4 * 8 {
				s, m := both(t, f, []bool{x&1 != 0, x&2 != 0})
				agree(t, s, m)
				for bit := 4; bit < 32; bit *= 2 {
					flip(t, s, m, 1+x&bit/bit)
					agree(t, s, m)
				}
			}
		}
	}
}

// P14.1: formulas and flips that are drawn, held against the definition.
func TestByDefinition(t *testing.T) {
	r := recurrence(14)
	for round := range 300 {
		vars := r.below(12)
		f := r.formula(vars, r.below(30), 1+r.below(5))
		s, m := both(t, f, r.assignment(vars))
		agree(t, s, m)
		for range r.below(40) {
			flip(t, s, m, r.below(vars+3)-1)
			agree(t, s, m)
		}
		if round%20 == 0 {
			extremesAgree(t, s, m)
		}
	}
}

// P14.1: the best assignment is the first of the best ones, if the clause that is flipped is always drawn from the row, as in a walk.
func TestBestOfWalks(t *testing.T) {
	r := recurrence(41)
	for range 60 {
		vars := 3 + r.below(12)
		f := r.formula(vars, 4*vars, 3)
		s, m := both(t, f, r.assignment(vars))
		for range 100 {
			if s.Unsatisfied() == 0 {
				break
			}
			if c := s.Clause(s.Row(r.below(s.Unsatisfied()))); len(c) > 0 {
				l := c[r.below(len(c))]
				flip(t, s, m, max(l, -l))
			}
			if a, n := s.Best(); !slices.Equal(a, m.best) || n != m.fewest {
				t.Fatalf("%v with %d, not %v with %d", a, n, m.best, m.fewest)
			}
		}
		agree(t, s, m)
	}
}

// P14.1: New copies what it is given, and does not change it.
func TestArgumentsApart(t *testing.T) {
	f := api.Formula{Vars: 3, Clauses: [][]int{{3, 1, 3}, {-2}, {}}}
	a := []bool{true, true, false}
	s, m := both(t, f, a)
	flip(t, s, m, 1)
	flip(t, s, m, 3)
	want := [][]int{{3, 1, 3}, {-2}, {}}
	if !slices.EqualFunc(f.Clauses, want, slices.Equal) || !slices.Equal(a, []bool{true, true, false}) {
		t.Errorf("they became %v and %v", f, a)
	}
	f.Clauses[0][0], f.Clauses[1][0], a[0] = 2, 2, false
	f.Clauses[2] = []int{1}
	agree(t, s, m)
	flip(t, s, m, 2)
	agree(t, s, m)
}

// P14.1: what is returned belongs to the caller.
func TestBelongs(t *testing.T) {
	s, m := both(t, api.Formula{Vars: 3, Clauses: [][]int{{3, 1}, {-2, 3}, {2}}}, []bool{false, true, false})
	for i := range 12 {
		best, _ := s.Best()
		for _, a := range [][]bool{s.Assignment(), best} {
			for k := range a {
				a[k] = !a[k]
			}
			_ = append(a[:0:len(a)], true)
		}
		for k := range 3 {
			c := s.Clause(k)
			for x := range c {
				c[x] = -7
			}
		}
		agree(t, s, m)
		flip(t, s, m, 1+i%3)
		agree(t, s, m)
	}
}

// P14.1: two states of the same formula are apart, and the same calls have the same results.
func TestStatesApart(t *testing.T) {
	r := recurrence(77)
	f := r.formula(8, 30, 3)
	a := r.assignment(8)
	s, m := both(t, f, a)
	x, y := both(t, f, a)
	for range 50 {
		flip(t, s, m, 1+r.below(8))
	}
	agree(t, s, m)
	agree(t, x, y)
	u, _ := both(t, f, a)
	for range 50 {
		v := 1 + r.below(8)
		flip(t, x, y, v)
		u.Flip(v)
		for i := range x.Unsatisfied() {
			if x.Row(i) != u.Row(i) {
				t.Fatalf("Row(%d) is %d and %d", i, x.Row(i), u.Row(i))
			}
		}
	}
	agree(t, x, y)
}

// P14.1: a state of as many variables, clauses and literals as there may be.
func TestLarge(t *testing.T) {
	f := api.Formula{Vars: api.MaxVars}
	for i := range api.MaxClauses {
		v := 1 + i/2
		f.Clauses = append(f.Clauses, []int{v, -(v%api.MaxVars + 1)})
	}
	s, e := local.New(f, make([]bool, api.MaxVars))
	if e != api.OK || s.Clauses() != api.MaxClauses || s.Unsatisfied() != 0 || s.Break(api.MaxVars) != 2 {
		t.Fatal(e, s.Clauses(), s.Unsatisfied())
	}
	// Each of these leaves two clauses unsatisfied, and each of those after them makes that better.
	for v := 2; v <= api.MaxVars; v += 2 {
		s.Flip(v)
	}
	if s.Unsatisfied() != api.MaxVars || s.Make(1) != 2 || s.Flips() != api.MaxVars/2 || s.Flip(api.MaxVars+1) || !s.Value(api.MaxVars) {
		t.Fatal(s.Unsatisfied(), s.Make(1))
	}
	if s, e = local.New(f, s.Assignment()); e != api.OK || s.Unsatisfied() != api.MaxVars {
		t.Fatal(e)
	}
	for v := 1; v <= api.MaxVars; v += 2 {
		s.Flip(v)
		if v%10001 == 0 {
			if a, n := s.Best(); n != s.Unsatisfied() || !slices.Equal(a, s.Assignment()) {
				t.Fatal(v, n)
			}
		}
	}
	if a, n := s.Best(); n != 0 || slices.Contains(a, false) || s.Row(0) != -1 {
		t.Fatal(n)
	}
}

// P14.1: a clause of very many literals.
func TestLongClause(t *testing.T) {
	const vars = 50000
	c := make([]int, vars)
	for i := range c {
		c[i] = vars - i
	}
	s, e := local.New(api.Formula{Vars: vars, Clauses: [][]int{c, {-1}}}, make([]bool, vars))
	if e != api.OK || s.Make(vars) != 1 || s.Holding(0) != 0 {
		t.Fatal(e)
	}
	for v := 1; v <= vars; v++ {
		s.Flip(v)
	}
	if s.Holding(0) != vars || s.Break(5) != 0 || s.Make(1) != 1 {
		t.Fatal(s.Holding(0))
	}
	for v := vars; v > 1; v-- {
		s.Flip(v)
	}
	if a, n := s.Best(); s.Break(1) != 1 || s.Flips() != 2*vars-1 || n != 1 || slices.Contains(a, true) {
		t.Fatal(s.Break(1), n)
	}
}

// P0: formulas that are not valid, too, have states of which each call returns.
func TestWrongInputsReturn(t *testing.T) {
	clauses := [][]int{extremes, {0}, {0, 0, 1}, {math.MinInt}, {1, 7, -9}, {2, -100001}, {-200000, 200000}, {-1}}
	for _, vars := range []int{0, 1, 2, 5, api.MaxVars, api.MaxVars + 1} {
		s, e := local.New(api.Formula{Vars: vars, Clauses: clauses}, make([]bool, vars))
		if e != api.OK {
			t.Fatal(vars, e)
		}
		for _, x := range append([]int{-2, -1, 0, 1, 2, 3, 5, 6, api.MaxVars, api.MaxVars + 1}, extremes...) {
			s.Flip(x)
			s.Value(x)
			s.Clause(x)
			s.Holding(x)
			s.Row(x)
			s.Break(x)
			s.Make(x)
		}
		s.Best()
		s.Assignment()
	}
	for _, vars := range append([]int{-1, -2}, extremes...) {
		if s, e := local.New(api.Formula{Vars: vars, Clauses: clauses}, make([]bool, 3)); s != nil || e != api.ErrArg {
			t.Error(vars, e)
		}
	}
}
