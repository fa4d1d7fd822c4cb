package walk_test

import (
	"math"
	"math/big"
	"slices"
	"testing"

	"bradawl/api"
	"bradawl/local"
	"bradawl/rng"
	"bradawl/walk"
)

// extremes are numbers that no way has.
var extremes = []int{
	math.MinInt, math.MinInt + 1, math.MinInt32, -1 << 32, -1001, -1000, -257, -64, -3, -2, -1,
	1001, 1 << 32, 1<<32 + 1, math.MaxInt32, math.MaxInt - 1, math.MaxInt,
}

// ways are some of each kind, with the least and the greatest numbers.
var ways = []walk.Way{
	{Kind: walk.Poly, Base: 1}, {Kind: walk.Poly, Base: 2}, {Kind: walk.Poly, Base: 9}, {Kind: walk.Poly, Base: 64},
	{Kind: walk.Exp, Base: 17}, {Kind: walk.Exp, Base: 40}, {Kind: walk.Exp, Base: 256},
	{Kind: walk.Noise}, {Kind: walk.Noise, Noise: 1}, {Kind: walk.Noise, Noise: 500}, {Kind: walk.Noise, Noise: 999}, {Kind: walk.Noise, Noise: 1000},
}

// A recurrence stands in for a random source, so that every run tests the same.
type recurrence uint32

// below returns a number from 0 to n - 1.
func (r *recurrence) below(n int) int {
	*r = *r*1664525 + 1013904223
	return int(*r>>8) % n
}

// word returns a number of 64 bits.
func (r *recurrence) word() uint64 {
	return uint64(r.below(1<<22))<<42 ^ uint64(r.below(1<<22))<<21 ^ uint64(r.below(1<<22))
}

// words returns some numbers of 64 bits.
func (r *recurrence) words(n int) []uint64 {
	out := make([]uint64, n)
	for i := range out {
		out[i] = r.word()
	}
	return out
}

// formula returns a formula of some variables, with short clauses, in which literals may come twice and with their negations.
func (r *recurrence) formula(vars, clauses, longest int) api.Formula {
	f := api.Formula{Vars: vars}
	for range clauses {
		var c []int
		for range r.below(longest + 1) {
			c = append(c, (1+r.below(vars))*(1-2*r.below(2)))
		}
		f.Clauses = append(f.Clauses, c)
	}
	return f
}

// assignment returns an assignment.
func (r *recurrence) assignment(vars int) []bool {
	a := make([]bool, vars)
	for i := range a {
		a[i] = r.below(2) == 1
	}
	return a
}

// newState returns a state of a formula.
func newState(t *testing.T, f api.Formula, a []bool) *local.State {
	t.Helper()
	s, e := local.New(f, a)
	if e != api.OK {
		t.Fatal(e)
	}
	return s
}

// weight is the weight of the chapter of tables.
func weight(w walk.Way, k int) *big.Int {
	k = min(k, 63)
	out := new(big.Int).Lsh(big.NewInt(1), 40)
	if w.Kind == walk.Poly {
		n := int64(w.Base + k)
		out.Div(out, big.NewInt(n*n*n))
	} else {
		for range k {
			out.Mul(out, big.NewInt(16)).Div(out, big.NewInt(int64(w.Base)))
			if out.Sign() == 0 {
				out.SetInt64(1)
			}
		}
	}
	if out.Sign() == 0 {
		out.SetInt64(1)
	}
	return out
}

// picked is the index of Pick, by the sums of the weights.
func picked(w walk.Way, breaks []int, x uint64) int {
	total := new(big.Int)
	for _, k := range breaks {
		total.Add(total, weight(w, k))
	}
	rest := new(big.Int).Mod(new(big.Int).SetUint64(x), total)
	sum := new(big.Int)
	for i, k := range breaks {
		if sum.Add(sum, weight(w, k)).Cmp(rest) > 0 {
			return i
		}
	}
	return -1
}

// noisy is the index that a way of the kind Noise chooses, and how many numbers are drawn.
func noisy(w walk.Way, breaks []int, words []uint64) (int, int) {
	if i := slices.Index(breaks, 0); i >= 0 {
		return i, 0
	}
	if words[0]%1000 < uint64(w.Noise) {
		return int(words[1] % uint64(len(breaks))), 2
	}
	return slices.Index(breaks, slices.Min(breaks)), 1
}

// expected is what a step of a state flips, and how many numbers it draws, of words that are enough.
func expected(s *local.State, w walk.Way, words []uint64) (int, int) {
	u := s.Unsatisfied()
	if u == 0 {
		return 0, 0
	}
	c := s.Clause(s.Row(int(words[0] % uint64(u))))
	if len(c) == 0 {
		return 0, 1
	}
	var breaks []int
	for _, l := range c {
		breaks = append(breaks, s.Break(max(l, -l)))
	}
	i, drawn := 0, 1
	if w.Kind == walk.Noise {
		i, drawn = noisy(w, breaks, words[1:])
	} else {
		i = picked(w, breaks, words[1])
	}
	return max(c[i], -c[i]), 1 + drawn
}

// step performs a step with three words more, and holds it against what is expected.
func step(t *testing.T, s *local.State, w walk.Way, words []uint64) int {
	t.Helper()
	v, drawn := expected(s, w, words)
	want, flips := s.Assignment(), s.Flips()
	if v > 0 {
		want[v-1] = !want[v-1]
		flips++
	}
	r := rng.New(words, 1)
	if got := walk.Step(s, w, r); got != v || r.Drawn() != drawn {
		t.Fatalf("%v: %d was flipped with %d numbers, not %d with %d", w, got, r.Drawn(), v, drawn)
	}
	if !slices.Equal(s.Assignment(), want) || s.Flips() != flips {
		t.Fatalf("%v: the assignment is %v after %d flips, not %v", w, s.Assignment(), s.Flips(), want)
	}
	return v
}

// left returns how many clauses an assignment leaves unsatisfied, apart from tautologies.
func left(f api.Formula, a []bool) int {
	n := 0
	for _, c := range f.Clauses {
		holds := false
		for _, l := range c {
			holds = holds || a[max(l, -l)-1] == (l > 0) || slices.Contains(c, -l)
		}
		if !holds {
			n++
		}
	}
	return n
}

// same reports whether two states were led to the same.
func same(s, o *local.State) bool {
	a, n := s.Best()
	b, m := o.Best()
	return slices.Equal(s.Assignment(), o.Assignment()) && slices.Equal(a, b) && n == m && s.Flips() == o.Flips()
}

func TestExample(t *testing.T) {
	for _, w := range ways {
		s := newState(t, api.Formula{Vars: 1, Clauses: [][]int{{1}}}, []bool{false})
		if v := walk.Step(s, w, rng.New(nil, 1)); v != 1 || s.Unsatisfied() != 0 {
			t.Error(w, v)
		}
	}
}

// P15.1: the kinds have their numbers.
func TestKinds(t *testing.T) {
	if walk.Poly != 0 || walk.Exp != 1 || walk.Noise != 2 {
		t.Error(walk.Poly, walk.Exp, walk.Noise)
	}
}

// P15.1: which ways are valid.
func TestRight(t *testing.T) {
	numbers := append([]int{0, 1, 2, 3, 15, 16, 17, 18, 63, 64, 65, 255, 256, 257, 999, 1000}, extremes...)
	for _, kind := range append([]int{0, 1, 2, 3, 4}, extremes...) {
		for _, base := range numbers {
			for _, noise := range numbers {
				want := false
				switch kind {
				case 0:
					want = base >= 1 && base <= 64 && noise == 0
				case 1:
					want = base >= 17 && base <= 256 && noise == 0
				case 2:
					want = base == 0 && noise >= 0 && noise <= 1000
				}
				if w := (walk.Way{Kind: kind, Base: base, Noise: noise}); walk.Right(w) != want {
					t.Errorf("Right(%v) is not %v", w, want)
				}
			}
		}
	}
}

// P15.1: if all clauses are satisfied, a step draws nothing, and returns 0.
func TestNothingLeft(t *testing.T) {
	for _, w := range ways {
		for _, f := range []api.Formula{{}, {Vars: 2}, {Vars: 2, Clauses: [][]int{{1, 2}, {-2}, {2, -2}}}} {
			s := newState(t, f, []bool{true, false}[:f.Vars])
			step(t, s, w, nil)
			r := rng.New(nil, 1)
			if n := walk.Run(s, w, r, 100); n != 0 || r.Drawn() != 0 || s.Flips() != 0 {
				t.Error(w, n, r.Drawn())
			}
		}
	}
}

// P15.1: an empty clause ends a step after its one number, and the step counts.
func TestEmptyClause(t *testing.T) {
	for _, w := range ways {
		s := newState(t, api.Formula{Vars: 2, Clauses: [][]int{{}, {1, 2}}}, []bool{false, false})
		empty := uint64(0)
		if s.Row(0) != 0 {
			empty = 1
		}
		if v := step(t, s, w, []uint64{empty, 5, 5}); v != 0 {
			t.Error(w, v)
		}
		r := rng.New([]uint64{empty, empty + 2, empty, 1 - empty, 5, 5, 5}, 1)
		if n := walk.Run(s, w, r, 3); n != 3 || r.Drawn() != 3 || s.Flips() != 0 {
			t.Error(w, n, r.Drawn())
		}
		if n := walk.Run(s, w, r, 1); n != 1 || s.Flips() != 1 || s.Unsatisfied() != 1 {
			t.Error(w, n)
		}
		if n := walk.Run(s, w, r, 50); n != 50 || s.Flips() != 1 {
			t.Error(w, n)
		}
	}
}

// P15.1: the number drawn first is the index in the row of the clause.
func TestClauseOfTheRow(t *testing.T) {
	f := api.Formula{Vars: 5, Clauses: [][]int{{1}, {2}, {3}, {4}, {5}}}
	for _, w := range ways {
		for x := range uint64(12) {
			s := newState(t, f, make([]bool, 5))
			want := s.Row(int(x%5)) + 1
			if v := step(t, s, w, []uint64{x, 0, 0}); v != want {
				t.Errorf("%v: the word %d flips %d, not %d", w, x, v, want)
			}
		}
	}
}

// unsatisfied returns the formula with the clause 1 2 3 4, of which the breaks are those given, and an assignment of which it alone is not satisfied.
func unsatisfied(breaks [4]int) (api.Formula, []bool) {
	f := api.Formula{Vars: 5, Clauses: [][]int{{1, 2, 3, 4}}}
	for i, n := range breaks {
		for range n {
			f.Clauses = append(f.Clauses, []int{-i - 1, 5})
		}
	}
	return f, make([]bool, 5)
}

// P15.1: the kind Noise takes the first literal with break 0, and draws nothing for that.
func TestNoiseWithoutBreaks(t *testing.T) {
	for _, noise := range []int{0, 500, 1000} {
		for _, c := range []struct {
			breaks [4]int
			want   int
		}{{[4]int{0, 0, 0, 0}, 1}, {[4]int{1, 0, 2, 0}, 2}, {[4]int{2, 1, 0, 0}, 3}, {[4]int{3, 3, 1, 0}, 4}} {
			f, a := unsatisfied(c.breaks)
			s, r := newState(t, f, a), rng.New([]uint64{0, 0, 3}, 1)
			if v := walk.Step(s, walk.Way{Kind: walk.Noise, Noise: noise}, r); v != c.want || r.Drawn() != 1 {
				t.Errorf("%v: %d with %d numbers", c, v, r.Drawn())
			}
		}
	}
}

// P15.1: the kind Noise draws whether it takes any literal, and otherwise takes the first one with the least break.
func TestNoise(t *testing.T) {
	cases := []struct {
		breaks      [4]int
		noise       int
		first, next uint64
		want, drawn int
	}{
		{[4]int{2, 1, 1, 3}, 0, 0, 3, 2, 2}, {[4]int{1, 1, 1, 1}, 0, 999, 3, 1, 2}, {[4]int{4, 3, 2, 1}, 0, 5, 0, 4, 2},
		{[4]int{2, 1, 1, 3}, 1, 0, 3, 4, 3}, {[4]int{2, 1, 1, 3}, 1, 1, 3, 2, 2}, {[4]int{2, 1, 1, 3}, 1, 1000, 7, 4, 3},
		{[4]int{2, 1, 1, 3}, 500, 499, 2, 3, 3}, {[4]int{2, 1, 1, 3}, 500, 500, 2, 2, 2}, {[4]int{2, 1, 1, 3}, 500, 1499, 4, 1, 3},
		{[4]int{2, 1, 1, 3}, 999, 998, 5, 2, 3}, {[4]int{2, 1, 1, 3}, 999, 999, 5, 2, 2},
		{[4]int{2, 1, 1, 3}, 1000, 999, 0, 1, 3}, {[4]int{2, 1, 1, 3}, 1000, math.MaxUint64, math.MaxUint64, 4, 3},
	}
	for _, c := range cases {
		f, a := unsatisfied(c.breaks)
		s, r := newState(t, f, a), rng.New([]uint64{0, c.first, c.next, 0}, 1)
		if v := walk.Step(s, walk.Way{Kind: walk.Noise, Noise: c.noise}, r); v != c.want || r.Drawn() != c.drawn {
			t.Errorf("%v: %d with %d numbers", c, v, r.Drawn())
		}
	}
}

// P15.1: Poly and Exp pick by the weights of the breaks of the literals, in their order.
func TestPicks(t *testing.T) {
	const one = 1 << 40
	poly, exp := walk.Way{Kind: walk.Poly, Base: 1}, walk.Way{Kind: walk.Exp, Base: 32}
	cases := []struct {
		w      walk.Way
		breaks [4]int
		x      uint64
		want   int
	}{
		{poly, [4]int{0, 1, 0, 1}, 0, 1}, {poly, [4]int{0, 1, 0, 1}, one - 1, 1}, {poly, [4]int{0, 1, 0, 1}, one, 2},
		{poly, [4]int{0, 1, 0, 1}, one + one/8 - 1, 2}, {poly, [4]int{0, 1, 0, 1}, one + one/8, 3},
		{poly, [4]int{0, 1, 0, 1}, 2*one + one/8 - 1, 3}, {poly, [4]int{0, 1, 0, 1}, 2*one + one/8, 4},
		{poly, [4]int{0, 1, 0, 1}, 2*one + one/4 - 1, 4}, {poly, [4]int{0, 1, 0, 1}, 2*one + one/4, 1},
		{exp, [4]int{1, 2, 0, 1}, one/2 - 1, 1}, {exp, [4]int{1, 2, 0, 1}, one / 2, 2}, {exp, [4]int{1, 2, 0, 1}, one/2 + one/4, 3},
		{exp, [4]int{1, 2, 0, 1}, one + one/2 + one/4, 4}, {exp, [4]int{1, 2, 0, 1}, 2*one + one/4, 1},
	}
	for _, c := range cases {
		f, a := unsatisfied(c.breaks)
		s, r := newState(t, f, a), rng.New([]uint64{0, c.x, 0, 0}, 1)
		if v := walk.Step(s, c.w, r); v != c.want || r.Drawn() != 2 {
			t.Errorf("%v: %d with %d numbers", c, v, r.Drawn())
		}
	}
}

// P15.1: negative literals are flipped by their variables, in the order of the normal form.
func TestNegativeLiterals(t *testing.T) {
	f := api.Formula{Vars: 3, Clauses: [][]int{{3, -2, -1, -2}, {1, 1}, {2, 1}}}
	a := []bool{true, true, false}
	for _, w := range ways {
		for x := range uint64(9) {
			step(t, newState(t, f, a), w, []uint64{0, x << 37, x})
		}
	}
	s := newState(t, f, a)
	if v := step(t, s, walk.Way{Kind: walk.Noise}, []uint64{0, 0, 0}); v != 2 || s.Value(2) {
		t.Error(v)
	}
}

// P15.1: steps of formulas and with words that are drawn, held against the definition.
func TestByDefinition(t *testing.T) {
	r := recurrence(15)
	for round := range 240 {
		vars := 1 + r.below(12)
		f := r.formula(vars, r.below(50), 1+r.below(6))
		s, w := newState(t, f, r.assignment(vars)), ways[round%len(ways)]
		for range 40 {
			step(t, s, w, r.words(3))
		}
	}
}

// P15.1: Run performs steps until everything is satisfied, or so many were performed.
func TestRun(t *testing.T) {
	r := recurrence(51)
	for round := range 240 {
		vars := 3 + r.below(10)
		f, a, w, words := r.formula(vars, 4*vars, 4), r.assignment(vars), ways[round%len(ways)], r.words(r.below(60))
		most := r.below(40) - 2
		s, x := newState(t, f, a), rng.New(words, 7)
		o, y := newState(t, f, a), rng.New(words, 7)
		want := 0
		for want < most && o.Unsatisfied() > 0 {
			walk.Step(o, w, y)
			want++
		}
		if n := walk.Run(s, w, x, most); n != want || x.Drawn() != y.Drawn() || !same(s, o) {
			t.Fatalf("%v: %d steps of %d, not %d", w, n, most, want)
		}
	}
}

// P15.1: no step is performed, if there may be less than one.
func TestNoSteps(t *testing.T) {
	f := api.Formula{Vars: 2, Clauses: [][]int{{1}, {2}, {}}}
	for _, w := range ways {
		for _, most := range []int{0, -1, -2, math.MinInt32, math.MinInt} {
			s, r := newState(t, f, []bool{false, true}), rng.New(nil, 1)
			if n := walk.Run(s, w, r, most); n != 0 || r.Drawn() != 0 || s.Flips() != 0 {
				t.Error(w, most, n)
			}
			x, e := walk.Walk(f, []bool{false, true}, w, r, most)
			if e != api.OK || x.Steps != 0 || x.Fewest != 2 || !slices.Equal(x.Best, []bool{false, true}) || r.Drawn() != 0 {
				t.Error(w, most, x, e)
			}
		}
	}
}

// P15.1: the parts of a run have the same result as the whole.
func TestParts(t *testing.T) {
	r := recurrence(52)
	for round := range 120 {
		vars := 3 + r.below(10)
		f, a, w, words := r.formula(vars, 5*vars, 4), r.assignment(vars), ways[round%len(ways)], r.words(20)
		s, x := newState(t, f, a), rng.New(words, 9)
		o, y := newState(t, f, a), rng.New(words, 9)
		total, sum := 0, 0
		for range 6 {
			most := r.below(20)
			total += most
			sum += walk.Run(o, w, y, most)
		}
		if n := walk.Run(s, w, x, total); n != sum || x.Drawn() != y.Drawn() || !same(s, o) {
			t.Fatalf("%v: %d steps, and %d in parts", w, n, sum)
		}
		if z, e := walk.Walk(f, a, w, rng.New(words, 9), total); e != api.OK || z.Steps != sum {
			t.Fatal(w, z, e)
		}
	}
}

// P15.1: Run ends with any number of steps, once everything is satisfied.
func TestManySteps(t *testing.T) {
	f := api.Formula{Vars: 4, Clauses: [][]int{{1, 2}, {-1, 3}, {-2, -3}, {4, -1}, {-4, 2, 1}}}
	for _, w := range ways {
		if w == (walk.Way{Kind: walk.Noise}) {
			continue
		}
		x, e := walk.Walk(f, make([]bool, 4), w, rng.New(nil, 5), math.MaxInt)
		if e != api.OK || x.Fewest != 0 || left(f, x.Best) != 0 {
			t.Error(w, x, e)
		}
	}
}

// P15.2: Best leaves Fewest clauses, and is the first one of the best that were passed through.
func TestBest(t *testing.T) {
	r := recurrence(152)
	for round := range 240 {
		vars := 2 + r.below(10)
		f, a, w, words := r.formula(vars, 6*vars, 4), r.assignment(vars), ways[round%len(ways)], r.words(30)
		most := r.below(60)
		s, y := newState(t, f, a), rng.New(words, 3)
		best, fewest, steps := slices.Clone(a), left(f, a), 0
		for steps < most && left(f, s.Assignment()) > 0 {
			walk.Step(s, w, y)
			steps++
			if n := left(f, s.Assignment()); n < fewest {
				best, fewest = s.Assignment(), n
			}
		}
		x, e := walk.Walk(f, a, w, rng.New(words, 3), most)
		if e != api.OK || !slices.Equal(x.Best, best) || x.Fewest != fewest || x.Steps != steps || left(f, x.Best) != x.Fewest {
			t.Fatalf("%v: %v, %v, not %v with %d after %d", w, x, e, best, fewest, steps)
		}
	}
}

// P15.1: Walk returns the error of New, and nothing else; it draws nothing then.
func TestWalkOfTooFew(t *testing.T) {
	for vars := range 5 {
		f := api.Formula{Vars: vars, Clauses: [][]int{{}, {}}}
		for n := range 8 {
			for _, w := range ways {
				r := rng.New(nil, 1)
				x, e := walk.Walk(f, make([]bool, n), w, r, 3)
				if n != vars && (e != api.ErrArg || x.Best != nil || x.Fewest != 0 || x.Steps != 0 || r.Drawn() != 0) {
					t.Errorf("%d of %d: %v, %v", n, vars, x, e)
				}
				if n == vars && (e != api.OK || len(x.Best) != n || x.Fewest != 2 || x.Steps != 3 || r.Drawn() != 3) {
					t.Errorf("%d of %d: %v, %v", n, vars, x, e)
				}
			}
		}
	}
}

// P15.1: what is passed is not changed, and what is returned belongs to the caller.
func TestArgumentsApart(t *testing.T) {
	f := api.Formula{Vars: 3, Clauses: [][]int{{3, 1, 3}, {-2}, {2, -1}, {2}}}
	a := []bool{false, false, false}
	x, _ := walk.Walk(f, a, walk.Way{Kind: walk.Exp, Base: 20}, rng.New(nil, 4), 30)
	for i := range x.Best {
		x.Best[i] = !x.Best[i]
	}
	if !slices.EqualFunc(f.Clauses, [][]int{{3, 1, 3}, {-2}, {2, -1}, {2}}, slices.Equal) || slices.Contains(a, true) {
		t.Error(f, a)
	}
	x, _ = walk.Walk(f, a, walk.Way{Kind: walk.Noise}, rng.New(nil, 4), 0)
	x.Best[0] = true
	if a[0] {
		t.Error("Best is the assignment that was passed")
	}
}

// P15.1: more breaks than have weights of their own, and a long clause.
func TestManyBreaks(t *testing.T) {
	const vars = 3000
	c := make([]int, vars)
	f := api.Formula{Vars: vars + 1}
	for i := range c {
		c[i] = i + 1
		for range i % 70 {
			f.Clauses = append(f.Clauses, []int{-i - 1, vars + 1})
		}
	}
	f.Clauses = append(f.Clauses, c)
	r := recurrence(16)
	s := newState(t, f, make([]bool, vars+1))
	for i := range 8 * len(ways) {
		v := step(t, s, ways[i%len(ways)], r.words(3))
		s.Flip(v)
	}
}

// P15.1: a formula of as many variables and clauses as there may be.
func TestLarge(t *testing.T) {
	f := api.Formula{Vars: api.MaxVars}
	for i := range api.MaxClauses {
		v := 1 + i/2
		f.Clauses = append(f.Clauses, []int{-v, v%api.MaxVars + 1}, []int{-v})
		if len(f.Clauses) == api.MaxClauses {
			break
		}
	}
	a := make([]bool, api.MaxVars)
	for i := range a {
		a[i] = true
	}
	x, e := walk.Walk(f, a, walk.Way{Kind: walk.Exp, Base: 40}, rng.New(nil, 1), 1000000)
	if e != api.OK || x.Steps > 1000000 || x.Fewest != left(f, x.Best) {
		t.Error(x.Steps, x.Fewest, e)
	}
}

// P0: ways and formulas that are not valid, too, have calls that return.
func TestWrongInputsReturn(t *testing.T) {
	clauses := [][]int{extremes, {0}, {0, 0, 1}, {math.MinInt}, {1, 7, -9}, {2, -100001}, {-200000, 200000}, {-1}, {-2, 1}}
	for _, vars := range append([]int{0, 1, 2, 9, api.MaxVars + 1}, extremes...) {
		n := vars
		if n < 0 || n > api.MaxVars+1 {
			n = 3
		}
		f := api.Formula{Vars: vars, Clauses: clauses}
		for _, w := range ways {
			walk.Walk(f, make([]bool, n), w, rng.New(nil, 1), 50)
		}
	}
	f := api.Formula{Vars: 3, Clauses: [][]int{{1, 2}, {-1, 2}, {3, -2}, {-3, 1}, {-1, -2, -3}}}
	for _, kind := range append([]int{0, 1, 2, 3}, extremes...) {
		for _, number := range append([]int{0, 1, 16}, extremes...) {
			for _, w := range []walk.Way{{Kind: kind, Base: number}, {Kind: kind, Noise: number}, {Kind: kind, Base: number, Noise: number}} {
				s, r := newState(t, f, make([]bool, 3)), rng.New(nil, 1)
				walk.Step(s, w, r)
				walk.Run(s, w, r, 20)
				walk.Walk(f, make([]bool, 3), w, r, 20)
			}
		}
	}
}
