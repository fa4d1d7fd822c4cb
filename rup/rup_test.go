package rup_test

import (
	"cmp"
	"math"
	"runtime"
	"slices"
	"testing"

	"bradawl/api"
	"bradawl/cnf"
	"bradawl/rup"
)

// wrong are numbers that are literals of no variables, or of more than a small store has.
var wrong = []int{0, math.MinInt, math.MinInt + 1, math.MinInt / 2, -api.MaxVars - 1, -api.MaxVars, api.MaxVars, api.MaxVars + 1, math.MaxInt / 2, math.MaxInt - 1, math.MaxInt}

// A recurrence stands in for a random source, so that every run tests the same.
type recurrence uint32

// below returns a number from 0 to n - 1.
func (r *recurrence) below(n int) int {
	*r = *r*1664525 + 1013904223
	return int(*r>>8) % n
}

// literals returns fewer than n literals of so many variables, perhaps some of them several times.
func (r *recurrence) literals(n, vars int) []int {
	out := make([]int, r.below(n))
	for i := range out {
		out[i] = r.below(vars) + 1
		if r.below(2) == 0 {
			out[i] = -out[i]
		}
	}
	return out
}

// byIndex orders literals as the chapter of layer 1 does: 1, -1, 2, -2 and so on.
func byIndex(x, y int) int {
	if n := cmp.Compare(max(x, -x), max(y, -y)); n != 0 {
		return n
	}
	return cmp.Compare(y, x)
}

// form returns a clause in normal form.
func form(c []int) []int {
	out := slices.Clone(c)
	slices.SortFunc(out, byIndex)
	return slices.Compact(out)
}

// A model is a store by the chapter's words: its clauses in normal form, in the order in which they were added.
type model struct {
	vars    int
	clauses [][]int
}

// add is Add.
func (m *model) add(c []int) bool {
	for _, l := range c {
		if l == 0 || l < -m.vars || l > m.vars {
			return false
		}
	}
	m.clauses = append(m.clauses, form(c))
	return true
}

// where returns the place of the first clause that is the same, or -1.
func (m *model) where(c []int) int {
	return slices.IndexFunc(m.clauses, func(d []int) bool { return slices.Equal(d, form(c)) })
}

// remove is Remove.
func (m *model) remove(c []int) bool {
	i := m.where(c)
	if i >= 0 {
		m.clauses = slices.Delete(m.clauses, i, i+1)
	}
	return i >= 0
}

// with returns what With yields.
func (m *model) with(l int) [][]int {
	var out [][]int
	for _, c := range m.clauses {
		if slices.Contains(c, l) {
			out = append(out, c)
		}
	}
	return out
}

// follow is Follow: it goes over all clauses until nothing more follows, and only then looks for a clash.
func (m *model) follow(l []int) ([]int, bool) {
	out := form(l)
	for more := true; more; {
		more = false
		for _, c := range m.clauses {
			for i, x := range c {
				if !slices.Contains(out, x) && negated(out, slices.Delete(slices.Clone(c), i, i+1)) {
					out, more = append(out, x), true
				}
			}
		}
	}
	for _, x := range out {
		if slices.Contains(out, -x) {
			return nil, false
		}
	}
	for _, c := range m.clauses {
		if negated(out, c) {
			return nil, false
		}
	}
	return form(out), true
}

// negated reports whether the negations of all of some literals are in a list.
func negated(list, literals []int) bool {
	return !slices.ContainsFunc(literals, func(l int) bool { return !slices.Contains(list, -l) })
}

// negations returns those of some literals.
func negations(c []int) []int {
	out := slices.Clone(c)
	for i := range out {
		out[i] = -out[i]
	}
	return out
}

// all returns all literals of so many variables, in the order of their indices.
func all(vars int) []int {
	var out []int
	for v := 1; v <= vars; v++ {
		out = append(out, v, -v)
	}
	return out
}

// equal reports whether two lists of clauses are equal.
func equal(c, d [][]int) bool {
	return slices.EqualFunc(c, d, slices.Equal)
}

// followAgrees holds what follows from some literals, and whether they are implied, against a model.
func followAgrees(t *testing.T, s *rup.Store, m *model, l []int) {
	t.Helper()
	before := slices.Clone(l)
	want, fine := m.follow(l)
	if got, ok := s.Follow(l); ok != fine || !slices.Equal(got, want) {
		t.Fatalf("%v: Follow(%v) is %v, %v, not %v, %v", m.clauses, l, got, ok, want, fine)
	}
	if got := s.Implied(negations(l)); got == fine {
		t.Fatalf("%v: Implied(%v) is %v", m.clauses, negations(l), got)
	}
	if !slices.Equal(l, before) {
		t.Fatalf("%v became %v", before, l)
	}
}

// agree holds all that a small store tells against a model.
func agree(t *testing.T, s *rup.Store, m *model) {
	t.Helper()
	if s.Len() != len(m.clauses) {
		t.Fatalf("%d clauses, not %d", s.Len(), len(m.clauses))
	}
	followAgrees(t, s, m, nil)
	for _, l := range append(all(m.vars), wrong...) {
		if got, want := slices.Collect(s.With(l)), m.with(l); !equal(got, want) {
			t.Fatalf("With(%d) yields %v, not %v", l, got, want)
		}
		if got := s.Has([]int{l}); got != (m.where([]int{l}) >= 0) {
			t.Fatalf("Has(%d) is %v", l, got)
		}
	}
	for _, l := range all(m.vars) {
		followAgrees(t, s, m, []int{l})
	}
	for _, c := range m.clauses {
		followAgrees(t, s, m, c)
		followAgrees(t, s, m, negations(c))
		if !s.Has(c) || !s.Implied(c) {
			t.Fatalf("%v is not there, or not implied", c)
		}
	}
}

// made returns a store with clauses, and its model.
func made(t *testing.T, vars int, clauses ...[]int) (*rup.Store, *model) {
	t.Helper()
	s, m := rup.New(vars), &model{vars: vars}
	for _, c := range clauses {
		if !s.Add(c) || !m.add(c) {
			t.Fatalf("%v was not added", c)
		}
	}
	return s, m
}

func TestExample(t *testing.T) {
	s, m := made(t, 2, []int{1, 2}, []int{-1, 2})
	if !s.Implied([]int{2}) || s.Implied(nil) || s.Implied([]int{1}) {
		t.Error("the chapter's example")
	}
	agree(t, s, m)
}

func TestNoClauses(t *testing.T) {
	for _, vars := range []int{0, 1, 2, 5} {
		s, m := made(t, vars)
		agree(t, s, m)
		for _, l := range all(vars) {
			if s.Remove([]int{l}) || s.Remove(nil) || s.Has(nil) {
				t.Errorf("%d variables: there is a clause", vars)
			}
		}
		agree(t, s, m)
	}
	s := rup.New(api.MaxVars)
	if l, ok := s.Follow(nil); !ok || len(l) != 0 || s.Len() != 0 || s.Implied(nil) {
		t.Errorf("no clause: %v, %v", l, ok)
	}
}

// From literals that do not clash, without clauses, they alone follow: once each, and in order.
func TestFollowItself(t *testing.T) {
	s := rup.New(9)
	cases := []struct {
		l, want []int
		ok      bool
	}{
		{nil, nil, true},
		{[]int{3}, []int{3}, true},
		{[]int{-9, 2, -1}, []int{-1, 2, -9}, true},
		{[]int{5, 5, 4, 5, 4}, []int{4, 5}, true},
		{[]int{1, -1}, nil, false},
		{[]int{-9, 2, 9}, nil, false},
		{[]int{-4, 4, 4, -4}, nil, false},
	}
	for _, c := range cases {
		if got, ok := s.Follow(c.l); ok != c.ok || !slices.Equal(got, c.want) {
			t.Errorf("Follow(%v) is %v, %v", c.l, got, ok)
		}
		if got := s.Implied(negations(c.l)); got == c.ok {
			t.Errorf("Implied(%v) is %v", negations(c.l), got)
		}
	}
}

func TestFollow(t *testing.T) {
	chain := [][]int{{-1, 2}, {3, -2}, {-3, -2, 4}, {5, 6, -4}}
	cases := []struct {
		clauses [][]int
		l, want []int
		ok      bool
	}{
		{chain, nil, nil, true},
		{chain, []int{1}, []int{1, 2, 3, 4}, true},
		{chain, []int{-3}, []int{-1, -2, -3}, true},
		{chain, []int{-6, 1}, []int{1, 2, 3, 4, 5, -6}, true},
		{chain, []int{4, -5}, []int{4, -5, 6}, true},
		{chain, []int{-5, -6}, []int{-4, -5, -6}, true},
		{chain, []int{-5, -6, 2}, nil, false},
		{chain, []int{1, -4}, nil, false},
		{append(slices.Clone(chain), []int{1}), nil, []int{1, 2, 3, 4}, true},
		{append(slices.Clone(chain), []int{1}), []int{-6}, []int{1, 2, 3, 4, 5, -6}, true},
		{append(slices.Clone(chain), []int{1}), []int{-1}, nil, false},
		{append(slices.Clone(chain), []int{1}, []int{-4}), nil, nil, false},
		{[][]int{{3}, {3}, {-1}}, nil, []int{-1, 3}, true},
		{[][]int{{3}, {-3}}, nil, nil, false},
		// Nothing follows where two literals of each clause are open, although all assignments clash.
		{[][]int{{1, 2}, {1, -2}, {-1, 2}, {-1, -2}}, nil, nil, true},
		{[][]int{{1, 2}, {1, -2}, {-1, 2}, {-1, -2}}, []int{1}, nil, false},
		// All literals of a clause are negated at once.
		{[][]int{{1, 2, 3}}, []int{-1, -2, -3}, nil, false},
		{[][]int{{1, 2, 3}}, []int{-1, -3}, []int{-1, 2, -3}, true},
		{[][]int{{1, 2, 3}}, []int{-1, 3}, []int{-1, 3}, true},
	}
	for _, c := range cases {
		s, m := made(t, 6, c.clauses...)
		for range 2 {
			if got, ok := s.Follow(c.l); ok != c.ok || !slices.Equal(got, c.want) {
				t.Errorf("%v: Follow(%v) is %v, %v", c.clauses, c.l, got, ok)
			}
			agree(t, s, m)
		}
	}
}

// With an empty clause everything clashes, until it is removed.
func TestEmptyClause(t *testing.T) {
	for _, vars := range []int{0, 1, 3} {
		s, m := made(t, vars, nil, []int{})
		for n := 2; n > 0; n-- {
			agree(t, s, m)
			if l, ok := s.Follow(nil); ok || len(l) > 0 || !s.Implied(nil) || !s.Has([]int{}) || s.Len() != n {
				t.Errorf("%d variables, %d empty clauses: %v, %v", vars, n, l, ok)
			}
			for _, l := range all(vars) {
				if _, ok := s.Follow([]int{l}); ok || !s.Implied([]int{l}) {
					t.Errorf("%d does not clash", l)
				}
			}
			if !s.Remove(nil) || !m.remove(nil) {
				t.Error("an empty clause is not there")
			}
		}
		if s.Remove(nil) || s.Has(nil) || s.Implied(nil) || s.Len() != 0 {
			t.Error("an empty clause is still there")
		}
		agree(t, s, m)
	}
}

// A tautology changes nothing of what follows, but is a clause as others are.
func TestTautologies(t *testing.T) {
	tautologies := [][]int{{1, -1}, {-1, 1, 1}, {2, -2, 3}, {-3, 1, 3, 2, -1}}
	s, m := made(t, 3, append(tautologies, []int{-1, 2})...)
	agree(t, s, m)
	plain, _ := made(t, 3, []int{-1, 2})
	for _, c := range [][]int{nil, {1}, {-2}, {1, -2}, {-1, -2}, {1, 3}, {-1, -2, -3}, {3, -3}} {
		got, ok := s.Follow(c)
		want, fine := plain.Follow(c)
		if ok != fine || !slices.Equal(got, want) || !s.Implied(append(c, 3, -3)) {
			t.Errorf("Follow(%v) is %v, %v, not %v, %v", c, got, ok, want, fine)
		}
	}
	if s.Len() != 5 || !s.Has([]int{1, -1}) || s.Has([]int{2, -2}) || !s.Remove([]int{-1, 1}) || !s.Has([]int{1, -1}) || !s.Remove([]int{1, -1}) || s.Remove([]int{1, -1}) {
		t.Error("tautologies are not counted as clauses")
	}
}

// Clauses are the same in any order, and with any literal doubled.
func TestSameClauses(t *testing.T) {
	s, m := made(t, 4, []int{3, -1, 2}, []int{2, 2, -1, 3, -1}, []int{-1, 2, 3}, []int{-1, 2, 3, 4}, []int{-1, 2}, []int{1, 2, 3})
	agree(t, s, m)
	if got := slices.Collect(s.With(3)); !equal(got, [][]int{{-1, 2, 3}, {-1, 2, 3}, {-1, 2, 3}, {-1, 2, 3, 4}, {1, 2, 3}}) {
		t.Errorf("With(3) yields %v", got)
	}
	for i, c := range [][]int{{2, 3, -1}, {-1, -1, 3, 2, 3}, {3, 2, -1}} {
		if !s.Has(c) || !s.Remove(c) || !m.remove(c) || s.Has(c) != (i < 2) || s.Len() != 5-i {
			t.Errorf("Remove(%v)", c)
		}
		agree(t, s, m)
	}
	for _, c := range [][]int{{2, 3, -1}, {2}, {2, 3}, {-1}, {4}, {1, 2, 3, 4}, {-1, -2}, {1, 2}, nil} {
		if s.Has(c) || s.Remove(c) {
			t.Errorf("there is %v", c)
		}
	}
	agree(t, s, m)
}

// Clauses whose digits are the same are not the same.
func TestSameDigits(t *testing.T) {
	clauses := [][]int{{123}, {1, 23}, {12, 3}, {1, 2, 3}, {-123}, {1, -23}, {-1, 23}, {12, -3}, {-12, 3}}
	for _, c := range clauses {
		s, m := made(t, 123, c)
		for _, d := range clauses {
			if s.Has(d) != (m.where(d) >= 0) || s.Remove(d) != m.remove(d) {
				t.Errorf("%v is taken for %v", d, c)
			}
		}
	}
}

// A literal of no variable of the store, wherever it is in a clause, keeps the clause out.
func TestForeignLiterals(t *testing.T) {
	for _, vars := range []int{0, 1, 3} {
		s, m := made(t, vars)
		for _, l := range append([]int{vars + 1, -vars - 1, vars + 2}, wrong...) {
			for _, c := range [][]int{{l}, {l, l}, append(all(vars), l), append([]int{l}, all(vars)...)} {
				if s.Add(c) || s.Has(c) || s.Remove(c) || s.Len() != 0 {
					t.Errorf("%d variables: %v", vars, c)
				}
			}
			if got := slices.Collect(s.With(l)); len(got) > 0 {
				t.Errorf("With(%d) yields %v", l, got)
			}
		}
		agree(t, s, m)
		for _, l := range all(vars) {
			if !s.Add([]int{l}) || !m.add([]int{l}) || !s.Has([]int{l, l}) {
				t.Errorf("%d variables: %d is not added", vars, l)
			}
			agree(t, s, m)
		}
	}
	s := rup.New(api.MaxVars)
	if !s.Add([]int{api.MaxVars, -api.MaxVars}) || s.Add([]int{api.MaxVars + 1}) || s.Add([]int{-api.MaxVars - 1}) || s.Add([]int{0}) || s.Len() != 1 {
		t.Error("the greatest variable")
	}
}

func TestWith(t *testing.T) {
	s, _ := made(t, 5, []int{2, 1}, []int{-2, 3}, []int{2}, []int{4, 2, -5, 2}, []int{2, 1}, nil)
	cases := []struct {
		l    int
		want [][]int
	}{
		{2, [][]int{{1, 2}, {2}, {2, 4, -5}, {1, 2}}},
		{-2, [][]int{{-2, 3}}},
		{1, [][]int{{1, 2}, {1, 2}}},
		{-1, nil},
		{5, nil},
		{-5, [][]int{{2, 4, -5}}},
		{6, nil},
		{0, nil},
	}
	for _, c := range cases {
		if got := slices.Collect(s.With(c.l)); !equal(got, c.want) {
			t.Errorf("With(%d) yields %v, not %v", c.l, got, c.want)
		}
	}
}

// One that is removed while With yields is not yielded after that; the others are.
func TestWithWhileRemoving(t *testing.T) {
	cases := []struct {
		name   string
		remove map[int][]int // at the clause of which second literal those of which ones
		want   []int
	}{
		{"none", nil, []int{2, 3, 4, 5, 6}},
		{"itself", map[int][]int{4: {4}}, []int{2, 3, 4, 5, 6}},
		{"each itself", map[int][]int{2: {2}, 3: {3}, 4: {4}, 5: {5}, 6: {6}}, []int{2, 3, 4, 5, 6}},
		{"the one before", map[int][]int{3: {2}, 4: {3}}, []int{2, 3, 4, 5, 6}},
		{"the next", map[int][]int{2: {3}, 4: {5}}, []int{2, 4, 6}},
		{"the last", map[int][]int{5: {6}}, []int{2, 3, 4, 5}},
		{"the others", map[int][]int{2: {3, 4, 5, 6}}, []int{2}},
		{"all", map[int][]int{3: {2, 3, 4, 5, 6}}, []int{2, 3}},
	}
	for _, c := range cases {
		s, m := made(t, 6, []int{1, 2}, []int{1, 3}, []int{1, 4}, []int{1, 5}, []int{1, 6})
		var got []int
		for x := range s.With(1) {
			got = append(got, x[1])
			for _, l := range c.remove[x[1]] {
				s.Remove([]int{l, 1})
				m.remove([]int{1, l})
			}
		}
		if !slices.Equal(got, c.want) {
			t.Errorf("%s: With yields %v, not %v", c.name, got, c.want)
		}
		agree(t, s, m)
	}
}

// What is yielded next is by the clauses that are there then, also when many are removed and added meanwhile.
func TestWithWhileChanging(t *testing.T) {
	r := recurrence(11)
	for range 300 {
		s, m := made(t, 3)
		for range 60 {
			c := append(r.literals(3, 3), 1)
			s.Add(c)
			m.add(c)
		}
		// The model's clauses that were yielded or passed over are those before this place.
		place := 0
		for c := range s.With(1) {
			for place < len(m.clauses) && !slices.Contains(m.clauses[place], 1) {
				place++
			}
			if place >= len(m.clauses) || !slices.Equal(c, m.clauses[place]) {
				t.Fatalf("%v is yielded, at %d of %v", c, place, m.clauses)
			}
			place++
			for range r.below(6) {
				x := append(r.literals(3, 3), 1)
				if i := m.where(x); i >= 0 && i < place {
					place--
				}
				if s.Remove(x) != m.remove(x) {
					t.Fatalf("Remove(%v)", x)
				}
			}
			if x := r.literals(4, 3); r.below(3) == 0 {
				s.Add(x)
				m.add(x)
			}
		}
		if slices.ContainsFunc(m.clauses[place:], func(c []int) bool { return slices.Contains(c, 1) }) {
			t.Fatalf("%v are not yielded", m.clauses[place:])
		}
		agree(t, s, m)
	}
}

// A clause that is added while With yields comes last.
func TestWithWhileAdding(t *testing.T) {
	s, m := made(t, 4, []int{1, 2}, []int{-1, 2}, []int{1, 3})
	var got [][]int
	for c := range s.With(1) {
		got = append(got, c)
		if len(got) == 1 {
			for _, x := range [][]int{{4, 1}, {4, -1}, {2, 1}} {
				s.Add(x)
				m.add(x)
			}
			s.Remove([]int{1, 2})
			m.remove([]int{1, 2})
		}
	}
	if !equal(got, [][]int{{1, 2}, {1, 3}, {1, 4}, {1, 2}}) {
		t.Errorf("With yields %v", got)
	}
	agree(t, s, m)
}

func TestWithLeftEarly(t *testing.T) {
	s, m := made(t, 6, []int{1, 2}, []int{1, 3}, []int{-1, 4}, []int{1, 5})
	with := s.With(1)
	for k := 1; k <= 3; k++ {
		var got []int
		for c := range with {
			got = append(got, c[1])
			if len(got) == k {
				break
			}
		}
		if !slices.Equal(got, []int{2, 3, 5}[:k]) {
			t.Errorf("ended after %d: %v", k, got)
		}
	}
	calls := 0
	with(func([]int) bool {
		calls++
		return false
	})
	if calls != 1 {
		t.Errorf("%d more after the end", calls-1)
	}
	s.Remove([]int{1, 2})
	m.remove([]int{1, 2})
	if got := slices.Collect(with); !equal(got, [][]int{{1, 3}, {1, 5}}) {
		t.Errorf("once more: %v", got)
	}
	agree(t, s, m)
}

// Other calls, and With itself, may be made while With yields.
func TestWithinWith(t *testing.T) {
	s, m := made(t, 6, []int{1, 2}, []int{1, -3}, []int{1, 5})
	var got []int
	for c := range s.With(1) {
		for d := range s.With(1) {
			got = append(got, c[1]+d[1])
			followAgrees(t, s, m, []int{-1})
			followAgrees(t, s, m, negations(d))
		}
	}
	if !slices.Equal(got, []int{4, -1, 7, -1, -6, 2, 7, 2, 10}) {
		t.Errorf("With within With: %v", got)
	}
}

// Neither the clauses that are added nor the slices that are returned or yielded share memory with the store.
func TestBelongs(t *testing.T) {
	mine := []int{1, -2, 3, 4, 4}
	s, m := made(t, 4)
	for range 3 {
		s.Add(mine[:3])
		m.add(mine[:3])
	}
	s.Add([]int{2})
	m.add([]int{2})
	if !slices.Equal(mine, []int{1, -2, 3, 4, 4}) {
		t.Fatalf("the argument became %v", mine)
	}
	for i := range mine {
		mine[i] = -4
	}
	agree(t, s, m)
	spoil := func(list []int) {
		_ = append(list, 7, 7, 7, 7)
		list = list[:cap(list)]
		for i := range list {
			list[i] = 7
		}
	}
	for c := range s.With(3) {
		spoil(c)
		agree(t, s, m)
	}
	l := []int{-1}
	got, _ := s.Follow(l)
	spoil(got)
	agree(t, s, m)
	if !slices.Equal(l, []int{-1}) {
		t.Errorf("the argument became %v", l)
	}
	// The other way round: what was returned does not change with the store.
	got, _ = s.Follow([]int{-1})
	yielded := slices.Collect(s.With(1))
	s.Remove([]int{-2, 3, 1})
	s.Add([]int{-4, -3})
	s.Follow([]int{-2, -4})
	s.Follow([]int{4})
	if !slices.Equal(got, []int{-1, 2, 3}) || !equal(yielded, [][]int{{1, -2, 3}, {1, -2, 3}, {1, -2, 3}}) {
		t.Errorf("the caller's slices became %v and %v", got, yielded)
	}
}

// Arguments are the same after each call.
func TestArgumentsStay(t *testing.T) {
	s := rup.New(5)
	c := []int{5, -2, 5, 1, -2}
	before := slices.Clone(c)
	s.Add(c)
	s.Has(c)
	s.Follow(c)
	s.Implied(c)
	s.Remove(c)
	s.Add(append(c[:4:4], 9))
	if !slices.Equal(c, before) {
		t.Errorf("%v became %v", before, c)
	}
}

// Stores have nothing to do with each other.
func TestStoresApart(t *testing.T) {
	s, m := made(t, 3, []int{1, 2}, []int{-2, 3})
	x, n := made(t, 3, []int{1, 2}, []int{-2, -3})
	s.Remove([]int{1, 2})
	m.remove([]int{1, 2})
	x.Add([]int{-1})
	n.add([]int{-1})
	agree(t, s, m)
	agree(t, x, n)
}

// small returns all clauses in normal form over so many variables.
func small(vars int) [][]int {
	literals := all(vars)
	var out [][]int
	for choice := range 1 << len(literals) {
		var c []int
		for i, l := range literals {
			if choice>>i&1 == 1 {
				c = append(c, l)
			}
		}
		out = append(out, c)
	}
	return out
}

// All stores of up to three clauses of two variables are held against the definitions, for all literals.
func TestSmallStores(t *testing.T) {
	clauses := small(2)
	for _, c := range clauses {
		for _, d := range clauses {
			for _, e := range clauses {
				s, m := made(t, 2, c, d, e)
				for _, l := range clauses {
					followAgrees(t, s, m, l)
				}
				s.Remove(d)
				m.remove(d)
				for _, l := range clauses {
					followAgrees(t, s, m, l)
				}
			}
		}
	}
}

// step performs a call on a store and its model, and holds its results against each other.
func step(t *testing.T, r *recurrence, s *rup.Store, m *model) {
	t.Helper()
	c := r.literals(5, m.vars)
	if len(m.clauses) > 0 && r.below(2) == 0 {
		c = slices.Clone(m.clauses[r.below(len(m.clauses))])
		c = append(c, c[:r.below(len(c)+1)]...)
		slices.Reverse(c)
	}
	switch r.below(7) {
	case 0, 1:
		if r.below(6) == 0 {
			c = append(c, m.vars+1, -m.vars)
		}
		if got, want := s.Add(c), m.add(c); got != want {
			t.Fatalf("Add(%v) is %v", c, got)
		}
	case 2, 3:
		if got, want := s.Remove(c), m.remove(c); got != want {
			t.Fatalf("Remove(%v) is %v", c, got)
		}
	case 4:
		if got := s.Has(c); got != (m.where(c) >= 0) {
			t.Fatalf("Has(%v) is %v", c, got)
		}
	case 5:
		followAgrees(t, s, m, c)
	case 6:
		followAgrees(t, s, m, r.literals(8, m.vars))
	}
}

// Stores that grow and shrink are held against the definitions at each of many calls, and as a whole now and then.
func TestByDefinition(t *testing.T) {
	r := recurrence(7)
	for n := range 300 {
		vars := 1 + n%12
		s, m := made(t, vars)
		for i := range n % 30 {
			c := append(r.literals(3, vars), r.literals(4, vars)...)
			if i%2 == 0 {
				s.Add(c)
				m.add(c)
			}
		}
		for i := range 150 {
			step(t, &r, s, m)
			if i%25 == 0 {
				agree(t, s, m)
			}
		}
		agree(t, s, m)
		for len(m.clauses) > 0 {
			c := m.clauses[r.below(len(m.clauses))]
			if !s.Remove(c) || !m.remove(c) {
				t.Fatalf("Remove(%v)", c)
			}
		}
		agree(t, s, m)
	}
}

// P7.2: what satisfies all clauses satisfies all clauses that are implied.
func TestImpliedHolds(t *testing.T) {
	r := recurrence(13)
	implied, not := 0, 0
	for range 400 {
		vars := 1 + r.below(5)
		s, m := made(t, vars)
		for range r.below(9) {
			c := r.literals(4, vars)
			if len(c) == 0 && r.below(20) > 0 {
				continue
			}
			s.Add(c)
			m.add(c)
		}
		for range 40 {
			c := r.literals(4, vars)
			if !s.Implied(c) {
				not++
				continue
			}
			implied++
			for choice := range 1 << vars {
				a := make([]bool, vars)
				for i := range a {
					a[i] = choice>>i&1 == 1
				}
				clauses := api.Formula{Vars: vars, Clauses: m.clauses}
				clause := api.Formula{Vars: vars, Clauses: [][]int{c}}
				if cnf.Satisfies(clauses, a) && !cnf.Satisfies(clause, a) {
					t.Fatalf("%v satisfies %v, but not %v, which is implied", a, m.clauses, c)
				}
			}
		}
	}
	if implied < 1000 || not < 1000 {
		t.Errorf("only %d are implied, and %d are not", implied, not)
	}
}

// As many variables as there may be, in a chain from the first to the last one.
func TestLongChain(t *testing.T) {
	const n = api.MaxVars
	s := rup.New(n)
	for v := 1; v < n; v++ {
		s.Add([]int{v + 1, -v})
	}
	for range 3 {
		up, ok := s.Follow([]int{1})
		if !ok || len(up) != n || up[0] != 1 || up[n-1] != n || !slices.IsSorted(up) {
			t.Fatalf("from 1 follow %d, %v", len(up), ok)
		}
		down, ok := s.Follow([]int{-n})
		if !ok || len(down) != n || down[0] != -1 || down[n-1] != -n {
			t.Fatalf("from the last one follow %d, %v", len(down), ok)
		}
	}
	if _, ok := s.Follow([]int{-n, 1}); ok || !s.Implied([]int{n, -1}) || s.Implied([]int{-n, 1}) {
		t.Error("the ends of the chain")
	}
	s.Remove([]int{-n / 2, n/2 + 1})
	if up, ok := s.Follow([]int{1, -n}); !ok || len(up) != n || up[n/2-1] != n/2 || up[n/2] != -n/2-1 {
		t.Errorf("after the chain is cut, %d follow, %v", len(up), ok)
	}
}

// Clauses of as many literals as there may be, all but one of which are negated, in either order.
func TestLongClause(t *testing.T) {
	const n = api.MaxVars
	s := rup.New(n)
	up := make([]int, n)
	for i := range up {
		up[i] = i + 1
	}
	down := slices.Clone(up)
	slices.Reverse(down)
	s.Add(down)
	s.Add(append(slices.Clone(up), down...))
	if s.Len() != 2 || !s.Remove(up) || !s.Has(down) {
		t.Error("long clauses are not the same")
	}
	for _, c := range [][]int{up, down} {
		for _, k := range []int{0, 1, n / 2, n - 1} {
			open := slices.Delete(negations(c), k, k+1)
			got, ok := s.Follow(open)
			if !ok || len(got) != n || got[c[k]-1] != c[k] {
				t.Fatalf("without %d, %d follow, %v", c[k], len(got), ok)
			}
			if !s.Implied(negations(append(open, -c[k]))) || s.Implied(negations(open[1:])) {
				t.Fatalf("without %d: Implied", c[k])
			}
		}
	}
}

// As many clauses as there may be, all of them the same or all different, come and go.
func TestManyClauses(t *testing.T) {
	const n = api.MaxClauses
	for name, clause := range map[string]func(i int) []int{
		"the same":  func(int) []int { return []int{3, -1} },
		"one each":  func(i int) []int { return []int{i/2 + 1, -i%2*3 - 1} },
		"different": func(i int) []int { return []int{i/400 + 1, -(i%400 + 501)} },
	} {
		s := rup.New(n / 2)
		for round := range 2 {
			for i := range n {
				s.Add(clause(i))
			}
			if s.Len() != n {
				t.Errorf("%s: %d clauses", name, s.Len())
			}
			for i := range n {
				if k := (i*7 + round) % n; !s.Remove(clause(k)) {
					t.Fatalf("%s: clause %d is not there", name, k)
				}
			}
			if l, ok := s.Follow([]int{1, -3}); s.Len() != 0 || !ok || len(l) != 2 || len(slices.Collect(s.With(-1))) > 0 {
				t.Errorf("%s: %d clauses are left", name, s.Len())
			}
		}
	}
}

// What was removed takes no memory any more, however much comes and goes, and although nothing is asked meanwhile.
func TestRemovedIsForgotten(t *testing.T) {
	const rounds = 500000
	s := rup.New(20)
	r := recurrence(17)
	s.Add([]int{1, 2})
	before := heap()
	for i := range rounds {
		c := []int{i%20 + 1}
		if i%2 == 0 {
			c = append(c, r.literals(12, 20)...)
		}
		if !s.Add(c) || !s.Remove(c) {
			t.Fatalf("%v was not there", c)
		}
	}
	if kept := heap() - before; kept > 20*rounds {
		t.Errorf("%d bytes are kept", kept)
	}
	if s.Len() != 1 || !s.Has([]int{2, 1}) {
		t.Errorf("%d clauses", s.Len())
	}
}

// heap returns how many bytes are in use.
func heap() int {
	runtime.GC()
	var m runtime.MemStats
	runtime.ReadMemStats(&m)
	return int(m.HeapAlloc)
}

// P0 for this layer: whatever is passed, in a store of whatever number of variables, each call returns.
func TestWrongInputsReturn(t *testing.T) {
	numbers := append([]int{-3, -2, -1, 1, 2, 3}, wrong...)
	for _, vars := range append([]int{-1, 0, 1, 2, 3}, wrong...) {
		s := rup.New(vars)
		for _, x := range numbers {
			for _, y := range numbers {
				c := []int{x, y, x}
				s.Follow(c)
				s.Implied(c)
				s.Remove(c)
				s.Has(c)
				if y%2 == 0 {
					s.Add(c)
					s.Add(c[:2])
				}
				for d := range s.With(y) {
					s.Remove(append(d, 1))
				}
			}
		}
		s.Follow(numbers)
		s.Implied(numbers)
		s.Remove(numbers)
		s.Add(nil)
		s.Follow(numbers)
		s.Implied(numbers)
		if n := s.Len(); n < 1 {
			t.Errorf("%d clauses", n)
		}
	}
}
