package norm_test

import (
	"math"
	"slices"
	"testing"

	"bradawl/api"
	"bradawl/cnf"
	"bradawl/norm"
)

// A recurrence stands in for a random source, so that every run tests the same.
type recurrence uint32

// below returns a number from 0 to n - 1.
func (r *recurrence) below(n int) int {
	*r = *r*1664525 + 1013904223
	return int(*r>>8) % n
}

// clause returns one of at most size literals of so many variables.
func (r *recurrence) clause(size, vars int) []int {
	c := make([]int, r.below(size+1))
	for i := range c {
		c[i] = r.literal(vars)
	}
	return c
}

// literal returns one of so many variables.
func (r *recurrence) literal(vars int) int {
	l := 1 + r.below(vars)
	if r.below(2) == 1 {
		return -l
	}
	return l
}

// formOf returns the normal form by its definition: of all literals of so many variables, by their indices, those that satisfy keep.
func formOf(vars int, keep func(l int) bool) []int {
	var out []int
	for v := 1; v <= vars; v++ {
		for _, l := range []int{v, -v} {
			if keep(l) {
				out = append(out, l)
			}
		}
	}
	return out
}

// in returns a function that tells whether a clause has a literal.
func in(c []int) func(l int) bool {
	return func(l int) bool { return slices.Contains(c, l) }
}

// opposed tells by the definition whether a clause is a tautology.
func opposed(c []int) bool {
	for _, x := range c {
		for _, y := range c {
			if x == -y {
				return true
			}
		}
	}
	return false
}

// words returns all clauses of exactly n literals of so many variables, in every order and with duplicates.
func words(n, vars int) [][]int {
	out := [][]int{{}}
	for range n {
		var longer [][]int
		for _, c := range out {
			for v := 1; v <= vars; v++ {
				longer = append(longer, append(slices.Clone(c), v), append(slices.Clone(c), -v))
			}
		}
		out = longer
	}
	return out
}

// small returns all clauses of at most n literals of so many variables.
func small(n, vars int) [][]int {
	var out [][]int
	for k := range n + 1 {
		out = append(out, words(k, vars)...)
	}
	return out
}

// spoil overwrites a clause and what may lie behind it, as its owner may.
func spoil(c []int) {
	c = c[:cap(c)]
	for i := range c {
		c[i] = 7777
	}
}

func TestClauseExamples(t *testing.T) {
	const last = api.MaxVars
	cases := []struct{ c, want []int }{
		{nil, nil},
		{[]int{}, nil},
		{[]int{2, -1, 2}, []int{-1, 2}},
		{[]int{5}, []int{5}},
		{[]int{-5}, []int{-5}},
		{[]int{1, 2, 3}, []int{1, 2, 3}},
		{[]int{3, 2, 1}, []int{1, 2, 3}},
		{[]int{-3, -2, -1}, []int{-1, -2, -3}},
		{[]int{-1, 1}, []int{1, -1}},
		{[]int{1, -1}, []int{1, -1}},
		{[]int{3, -2, 3, 2, -1}, []int{-1, 2, -2, 3}},
		{[]int{4, 4, 4, 4}, []int{4}},
		{[]int{-4, 4, -4, 4}, []int{4, -4}},
		{[]int{10, -9, 100, -99}, []int{-9, 10, -99, 100}},
		{[]int{-last, last, -1, 1}, []int{1, -1, last, -last}},
		{[]int{last, last - 1, -last}, []int{last - 1, last, -last}},
		{[]int{last, 1, last, 1}, []int{1, last}},
	}
	for _, c := range cases {
		kept := slices.Clone(c.c)
		if got := norm.Clause(c.c); !slices.Equal(got, c.want) {
			t.Errorf("Clause(%v) is %v", kept, got)
		}
		if !slices.Equal(kept, c.c) {
			t.Errorf("Clause(%v) changed it to %v", kept, c.c)
		}
	}
}

func TestTautologyExamples(t *testing.T) {
	const last = api.MaxVars
	cases := []struct {
		c    []int
		want bool
	}{
		{nil, false}, {[]int{}, false},
		{[]int{1}, false}, {[]int{-1}, false}, {[]int{1, 1}, false}, {[]int{-1, -1}, false},
		{[]int{1, -1}, true}, {[]int{-1, 1}, true},
		{[]int{1, 2, 3, 4}, false}, {[]int{-1, -2, -3}, false}, {[]int{1, -2}, false},
		{[]int{-1, 2, 3, 1}, true}, {[]int{3, 2, -2}, true}, {[]int{1, 2, -3, 4, 3, 5}, true},
		{[]int{last, -last}, true}, {[]int{-last, 3, 2, last}, true},
		{[]int{last, -(last - 1)}, false}, {[]int{1, -last}, false},
		{[]int{1, 2, 1, 2, -1}, true},
	}
	for _, c := range cases {
		kept := slices.Clone(c.c)
		if got := norm.Tautology(c.c); got != c.want {
			t.Errorf("Tautology(%v) is %v", kept, got)
		}
		if !slices.Equal(kept, c.c) {
			t.Errorf("Tautology(%v) changed it to %v", kept, c.c)
		}
	}
}

func TestSameExamples(t *testing.T) {
	const last = api.MaxVars
	cases := []struct {
		c, d []int
		want bool
	}{
		{nil, nil, true}, {nil, []int{}, true}, {[]int{}, []int{}, true},
		{nil, []int{1}, false}, {[]int{1}, []int{}, false},
		{[]int{1}, []int{1}, true}, {[]int{1}, []int{-1}, false}, {[]int{1}, []int{2}, false},
		{[]int{1, 1, 1}, []int{1}, true}, {[]int{1, 1, 2}, []int{2, 2, 1}, true},
		{[]int{1, 2}, []int{1}, false}, {[]int{1}, []int{1, 2}, false}, {[]int{1, 2}, []int{1, -2}, false},
		{[]int{1}, []int{1, -1}, false}, {[]int{1, -1}, []int{-1, 1}, true}, {[]int{1, -1}, []int{2, -2}, false},
		{[]int{3, -2, 1}, []int{1, 3, -2}, true}, {[]int{1, 2, 3}, []int{1, 2, 4}, false},
		{[]int{last, -last}, []int{-last, last, last}, true}, {[]int{last}, []int{-last}, false},
	}
	for _, c := range cases {
		if got := norm.Same(c.c, c.d); got != c.want {
			t.Errorf("Same(%v, %v) is %v", c.c, c.d, got)
		}
	}
}

func TestWithoutExamples(t *testing.T) {
	const last = api.MaxVars
	cases := []struct {
		c    []int
		l    int
		want []int
	}{
		{nil, 1, nil},
		{[]int{}, -1, nil},
		{[]int{1}, 1, nil},
		{[]int{1, 1, 1}, 1, nil},
		{[]int{1}, -1, []int{1}},
		{[]int{-1}, 1, []int{-1}},
		{[]int{1, -1, 1}, 1, []int{-1}},
		{[]int{1, -1, 1}, -1, []int{1}},
		{[]int{3, 2, 1}, 2, []int{1, 3}},
		{[]int{3, 2, 1}, -2, []int{1, 2, 3}},
		{[]int{3, 2, 3, 1, 2}, 9, []int{1, 2, 3}},
		{[]int{2, 3, 2, -1, 2}, 2, []int{-1, 3}},
		{[]int{last, 1, -last, last}, last, []int{1, -last}},
		{[]int{last, 1, -last, -1}, 1, []int{-1, last, -last}},
		{[]int{last, 1, -last}, -last, []int{1, last}},
	}
	for _, c := range cases {
		if got := norm.Without(c.c, c.l); !slices.Equal(got, c.want) {
			t.Errorf("Without(%v, %d) is %v", c.c, c.l, got)
		}
	}
}

func TestResolveExamples(t *testing.T) {
	const last = api.MaxVars
	cases := []struct {
		c, d []int
		l    int
		want []int
	}{
		{[]int{1}, []int{-1}, 1, nil},
		{[]int{-1}, []int{1}, -1, nil},
		{[]int{1, 2}, []int{-1, 3, 2}, 1, []int{2, 3}},
		{[]int{-1, 3, 2}, []int{1, 2}, -1, []int{2, 3}},
		{[]int{3, 1}, []int{2, -1}, 1, []int{2, 3}},
		{[]int{1, 2}, []int{-1, -2}, 1, []int{2, -2}},
		{[]int{1, 1, 2}, []int{-1, 2, -1}, 1, []int{2}},
		// Each clause loses its own literal alone.
		{[]int{1, -1}, []int{1, -1}, 1, []int{1, -1}},
		{[]int{1, -1, 2}, []int{-1, 3}, 1, []int{-1, 2, 3}},
		{[]int{1, 2}, []int{1, 3}, 1, []int{1, 2, 3}},
		{[]int{-1, 2}, []int{-1, 3}, 1, []int{-1, 2, 3}},
		// A literal that is not there.
		{[]int{2}, []int{3}, 1, []int{2, 3}},
		{[]int{2, 3}, []int{3, 2}, 1, []int{2, 3}},
		{nil, nil, 1, nil},
		{nil, []int{-1, 2}, 1, []int{2}},
		{[]int{1, 2}, nil, 1, []int{2}},
		{[]int{last, 1}, []int{-last, -1}, last, []int{1, -1}},
		{[]int{-last}, []int{last, 5}, -last, []int{5}},
	}
	for _, c := range cases {
		if got := norm.Resolve(c.c, c.d, c.l); !slices.Equal(got, c.want) {
			t.Errorf("Resolve(%v, %v, %d) is %v", c.c, c.d, c.l, got)
		}
	}
}

// Clause, Tautology and Without are held against the definitions, for all clauses of up to five literals in every order.
func TestClausesByDefinition(t *testing.T) {
	const vars = 3
	for _, c := range small(5, vars) {
		kept := slices.Clone(c)
		if got := norm.Clause(c); !slices.Equal(got, formOf(vars, in(c))) {
			t.Errorf("Clause(%v) is %v", c, got)
		}
		if got := norm.Tautology(c); got != opposed(c) {
			t.Errorf("Tautology(%v) is %v", c, got)
		}
		for _, l := range []int{1, -1, 2, -2, 3, -3, 4, -4} {
			want := formOf(vars, func(x int) bool { return x != l && slices.Contains(c, x) })
			if got := norm.Without(c, l); !slices.Equal(got, want) {
				t.Errorf("Without(%v, %d) is %v", c, l, got)
			}
		}
		if !slices.Equal(c, kept) {
			t.Fatalf("%v was changed to %v", kept, c)
		}
	}
}

// Same and Resolve are held against the definitions, for all pairs of clauses of up to three literals.
func TestPairsByDefinition(t *testing.T) {
	const vars = 2
	all := small(3, vars)
	for _, c := range all {
		for _, d := range all {
			keptC, keptD := slices.Clone(c), slices.Clone(d)
			if got := norm.Same(c, d); got != slices.Equal(formOf(vars, in(c)), formOf(vars, in(d))) {
				t.Errorf("Same(%v, %v) is %v", c, d, got)
			}
			for _, l := range []int{1, -1, 2, -2, 3, -3} {
				want := formOf(vars, func(x int) bool {
					return x != l && slices.Contains(c, x) || x != -l && slices.Contains(d, x)
				})
				if got := norm.Resolve(c, d, l); !slices.Equal(got, want) {
					t.Errorf("Resolve(%v, %v, %d) is %v", c, d, l, got)
				}
			}
			if !slices.Equal(c, keptC) || !slices.Equal(d, keptD) {
				t.Fatalf("%v, %v were changed to %v, %v", keptC, keptD, c, d)
			}
		}
	}
}

// The same for longer clauses of more variables.
func TestLongerByDefinition(t *testing.T) {
	r := recurrence(4)
	for range 4000 {
		vars := 1 + r.below(30)
		c, d, l := r.clause(40, vars), r.clause(40, vars), r.literal(vars)
		if r.below(4) == 0 {
			d = append(slices.Clone(c), c...)
			slices.Reverse(d)
		}
		keptC, keptD := slices.Clone(c), slices.Clone(d)
		form := formOf(vars, in(c))
		if got := norm.Clause(c); !slices.Equal(got, form) {
			t.Errorf("Clause(%v) is %v", c, got)
		}
		if got := norm.Tautology(c); got != opposed(c) {
			t.Errorf("Tautology(%v) is %v", c, got)
		}
		if got := norm.Same(c, d); got != slices.Equal(form, formOf(vars, in(d))) {
			t.Errorf("Same(%v, %v) is %v", c, d, got)
		}
		want := formOf(vars, func(x int) bool { return x != l && slices.Contains(c, x) })
		if got := norm.Without(c, l); !slices.Equal(got, want) {
			t.Errorf("Without(%v, %d) is %v", c, l, got)
		}
		want = formOf(vars, func(x int) bool {
			return x != l && slices.Contains(c, x) || x != -l && slices.Contains(d, x)
		})
		if got := norm.Resolve(c, d, l); !slices.Equal(got, want) {
			t.Errorf("Resolve(%v, %v, %d) is %v", c, d, l, got)
		}
		if !slices.Equal(c, keptC) || !slices.Equal(d, keptD) {
			t.Fatalf("%v, %v were changed to %v, %v", keptC, keptD, c, d)
		}
	}
}

func TestFormulaExamples(t *testing.T) {
	const last = api.MaxVars
	cases := []struct {
		f     api.Formula
		want  [][]int
		empty bool
	}{
		{api.Formula{}, nil, false},
		{api.Formula{Vars: 3}, nil, false},
		{api.Formula{Vars: 3, Clauses: [][]int{}}, nil, false},
		{api.Formula{Clauses: [][]int{{}}}, [][]int{nil}, true},
		{api.Formula{Clauses: [][]int{nil, {}}}, [][]int{nil, nil}, true},
		{api.Formula{Vars: 1, Clauses: [][]int{{1}}}, [][]int{{1}}, false},
		{api.Formula{Vars: 1, Clauses: [][]int{{1, -1}}}, nil, false},
		{api.Formula{Vars: 2, Clauses: [][]int{{1, -1}, {-2, 1, 2}}}, nil, false},
		{api.Formula{Vars: 2, Clauses: [][]int{{1, -1}, {2, 2}, {}}}, [][]int{{2}, nil}, true},
		{api.Formula{Vars: 2, Clauses: [][]int{{}, {1, -1}, {2, 1}}}, [][]int{nil, {1, 2}}, true},
		{api.Formula{Vars: 3, Clauses: [][]int{{3}, {2, 1}, {3}, {-1, -1}, {1, 2}}}, [][]int{{3}, {1, 2}, {3}, {-1}, {1, 2}}, false},
		{api.Formula{Vars: last, Clauses: [][]int{{last, 1}, {last, -last}, {-last, -1}}}, [][]int{{1, last}, {-1, -last}}, false},
	}
	for _, c := range cases {
		got, empty := norm.Formula(c.f)
		if empty != c.empty || !slices.EqualFunc(got, c.want, slices.Equal[[]int]) {
			t.Errorf("Formula(%v) is %v, %v", c.f, got, empty)
		}
	}
}

// formulas returns ordinary formulas of at most four variables.
func formulas() []api.Formula {
	var out []api.Formula
	r := recurrence(44)
	for range 600 {
		f := api.Formula{Vars: 1 + r.below(4)}
		for range r.below(9) {
			f.Clauses = append(f.Clauses, r.clause(5, f.Vars))
		}
		out = append(out, f)
	}
	return out
}

func TestFormulaByDefinition(t *testing.T) {
	found := map[bool]int{}
	for _, f := range formulas() {
		kept := cnf.Copy(f)
		var want [][]int
		is := false
		for _, c := range f.Clauses {
			if !opposed(c) {
				want = append(want, formOf(f.Vars, in(c)))
				is = is || len(c) == 0
			}
		}
		got, empty := norm.Formula(f)
		if empty != is || !slices.EqualFunc(got, want, slices.Equal[[]int]) {
			t.Errorf("Formula(%v) is %v, %v", f, got, empty)
		}
		if !slices.EqualFunc(f.Clauses, kept.Clauses, slices.Equal[[]int]) {
			t.Fatalf("%v was changed to %v", kept, f)
		}
		found[empty]++
	}
	if found[true] < 50 || found[false] < 50 {
		t.Errorf("too few of one kind: %v", found)
	}
}

// P4.2, for each assignment.
func TestSatisfiedAlike(t *testing.T) {
	found := map[bool]int{}
	for _, f := range formulas() {
		clauses, empty := norm.Formula(f)
		g := api.Formula{Vars: f.Vars, Clauses: clauses}
		if !cnf.Right(g) {
			t.Fatalf("the clauses of %v in normal form are not valid: %v", f, clauses)
		}
		for n := range 1 << f.Vars {
			a := make([]bool, f.Vars)
			for i := range a {
				a[i] = n>>i&1 == 1
			}
			is := cnf.Satisfies(f, a)
			if cnf.Satisfies(g, a) != is {
				t.Errorf("%v satisfies %v: %v, but not so its clauses in normal form: %v", a, f, is, clauses)
			}
			if empty && is {
				t.Errorf("%v satisfies %v, which has an empty clause", a, f)
			}
			for _, c := range f.Clauses {
				if cnf.Clause(c, a) != cnf.Clause(norm.Clause(c), a) || norm.Tautology(c) && !cnf.Clause(c, a) {
					t.Errorf("%v and the clause %v", a, c)
				}
			}
			found[is]++
		}
	}
	if found[true] < 200 || found[false] < 200 {
		t.Errorf("too few of one kind: %v", found)
	}
}

// A normal form is its own normal form.
func TestClauseTwice(t *testing.T) {
	for _, c := range small(4, 3) {
		once := norm.Clause(c)
		if twice := norm.Clause(once); !slices.Equal(once, twice) || !norm.Same(c, once) {
			t.Errorf("Clause(%v) is %v, and of that it is %v", c, once, twice)
		}
	}
}

// What is returned belongs to the caller: it shares no memory with an argument, not even behind its end.
func TestReturnedBelongs(t *testing.T) {
	all := []int{1, -2, 3, 5, 5, -4, 2, 9}
	kept := slices.Clone(all)
	calls := []struct {
		name string
		call func(c []int) []int
	}{
		{"Clause", norm.Clause},
		{"Without, there", func(c []int) []int { return norm.Without(c, 3) }},
		{"Without, not there", func(c []int) []int { return norm.Without(c, 8) }},
		{"Resolve, first", func(c []int) []int { return norm.Resolve(c, nil, 8) }},
		{"Resolve, second", func(c []int) []int { return norm.Resolve(nil, c, 8) }},
		{"Resolve, both", func(c []int) []int { return norm.Resolve(c, c, 3) }},
	}
	for _, x := range calls {
		for from := range len(all) + 1 {
			for to := from; to <= len(all); to++ {
				c := all[from:to]
				got := x.call(c)
				want := slices.Clone(got)
				_ = append(got, 7777)
				spoil(got)
				if !slices.Equal(all, kept) {
					t.Fatalf("%s shares memory with %v", x.name, kept[from:to])
				}
				if again := x.call(c); !slices.Equal(again, want) {
					t.Fatalf("%s of %v is %v, and then %v", x.name, c, want, again)
				}
			}
		}
	}
}

// So do the clauses of a formula, one by one.
func TestFormulaBelongs(t *testing.T) {
	all := []int{1, 2, 3, 4, 5, 6}
	f := api.Formula{Vars: 6, Clauses: [][]int{all[:2], all[2:2], all[:2], all[2:4], all[4:]}}
	want := [][]int{{1, 2}, {}, {1, 2}, {3, 4}, {5, 6}}
	for i := range want {
		got, _ := norm.Formula(f)
		_ = append(got[i], 7777)
		spoil(got[i])
		for k := range want {
			if k != i && !slices.Equal(got[k], want[k]) {
				t.Errorf("clause %d shares memory with clause %d: %v", k, i, got)
			}
		}
		got[i] = nil
		if !slices.Equal(all, []int{1, 2, 3, 4, 5, 6}) || !slices.EqualFunc(f.Clauses, want, slices.Equal[[]int]) {
			t.Fatalf("clause %d shares memory with the formula: %v", i, f)
		}
	}
}

// Clauses of all literals there are, and formulas at the limits.
func TestLimits(t *testing.T) {
	const last = api.MaxVars
	var wide []int
	for v := last; v >= 1; v-- {
		wide = append(wide, -v, v)
	}
	form := norm.Clause(slices.Concat(wide, wide))
	if len(form) != 2*last || form[0] != 1 || form[1] != -1 || form[2*last-2] != last || form[2*last-1] != -last {
		t.Error("the normal form of all literals")
	}
	if !norm.Tautology(wide) || !norm.Same(form, wide) || norm.Same(form[1:], wide) || len(norm.Without(wide, -last)) != 2*last-1 {
		t.Error("all literals")
	}
	ones := make([]int, last)
	for i := range ones {
		ones[i] = last - i
	}
	if norm.Tautology(ones) || !norm.Tautology(append(ones, -1)) || !norm.Tautology(append(ones, -last)) {
		t.Error("one literal of each variable")
	}
	if got := norm.Resolve(ones, []int{-last, -1}, last); len(got) != last || got[1] != -1 || got[last-1] != last-1 {
		t.Error("resolving one literal of each variable")
	}
	many := api.Formula{Vars: last, Clauses: slices.Repeat([][]int{{last, 1, last, 2, 1}}, api.MaxClauses)}
	got, empty := norm.Formula(many)
	if len(got) != api.MaxClauses || empty || !slices.Equal(got[api.MaxClauses-1], []int{1, 2, last}) {
		t.Error("as many clauses as permitted")
	}
	long := api.Formula{Vars: 1, Clauses: [][]int{slices.Repeat([]int{-1}, api.MaxLits)}}
	if got, empty := norm.Formula(long); len(got) != 1 || empty || !slices.Equal(got[0], []int{-1}) {
		t.Error("as many literals as permitted")
	}
}

// P0 for this layer: whatever is passed, each call returns.
func TestWrongInputsReturn(t *testing.T) {
	numbers := []int{0, 1, -1, api.MaxVars + 1, -api.MaxVars - 1, math.MaxInt, math.MinInt, math.MinInt + 1, math.MaxInt / 2, math.MinInt / 2}
	clauses := [][]int{nil, {}, {0}, {0, 0}, numbers, slices.Repeat(numbers, 20)}
	for _, x := range numbers {
		for _, y := range numbers {
			clauses = append(clauses, []int{x, y}, []int{y, x, y})
		}
	}
	for _, c := range clauses {
		kept := slices.Clone(c)
		norm.Clause(c)
		norm.Tautology(c)
		for _, l := range numbers {
			norm.Without(c, l)
		}
		for _, d := range clauses {
			norm.Same(c, d)
			norm.Resolve(c, d, numbers[len(d)%len(numbers)])
		}
		if !slices.Equal(c, kept) {
			t.Errorf("%v was changed to %v", kept, c)
		}
	}
	for _, vars := range []int{math.MinInt, -1, 0, 3, api.MaxVars + 1, math.MaxInt} {
		norm.Formula(api.Formula{Vars: vars})
		norm.Formula(api.Formula{Vars: vars, Clauses: clauses})
	}
}
