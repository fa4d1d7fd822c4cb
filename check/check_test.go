package check_test

import (
	"slices"
	"testing"

	"bradawl/api"
	"bradawl/check"
	"bradawl/cnf"
	"bradawl/drat"
	"bradawl/rup"
)

func TestExample(t *testing.T) {
	wantReport(t, of(1, []int{1}, []int{-1}), proof(add()), refutes(0))
}

func TestOrdinaryProofs(t *testing.T) {
	four := of(2, []int{1, 2}, []int{1, -2}, []int{-1, 2}, []int{-1, -2})
	eight := of(3, []int{1, 2, 3}, []int{1, 2, -3}, []int{1, -2, 3}, []int{1, -2, -3}, []int{-1, 2, 3}, []int{-1, 2, -3}, []int{-1, -2, 3}, []int{-1, -2, -3})
	// Three pigeons, of which each sits in one of two holes.
	pigeons := of(6, []int{1, 2}, []int{3, 4}, []int{5, 6}, []int{-1, -3}, []int{-1, -5}, []int{-3, -5}, []int{-2, -4}, []int{-2, -6}, []int{-4, -6})
	wantReports(t, []reported{
		{"one lesson", four, proof(add(1), add()), refutes(1)},
		{"another one", four, proof(add(-2), add()), refutes(1)},
		{"what is not needed is deleted", four, proof(add(2), remove(1, 2), remove(-1, 2), add()), refutes(3)},
		{"what is needed is deleted", four, proof(add(2), remove(-2, 1), add()), bad(2)},
		{"no lesson", four, proof(add()), bad(0)},
		{"no empty clause", four, proof(add(1)), fine},
		{"deleted before a lesson", four, proof(remove(1, 2), add(1), add()), bad(1)},
		{"deleted before other lessons", four, proof(remove(1, 2), add(-1), add(-2), add()), bad(3)},
		{"lessons grow shorter", eight, proof(add(1, 2), add(1), add(2), add()), refutes(3)},
		{"the other way round", eight, proof(add(-3, -1), add(-3), add(-1), add()), refutes(3)},
		{"too few lessons", eight, proof(add(1, 2), add(1), add()), bad(2)},
		{"only by the first literal", eight, proof(add(1), add(2), add()), refutes(2)},
		{"pigeons", pigeons, proof(add(1), add()), refutes(1)},
		{"pigeons, otherwise", pigeons, proof(add(-4), add()), refutes(1)},
		{"pigeons, and one lives nowhere", pigeons, proof(add(-6), remove(5, 6), add()), bad(2)},
		{"pigeons, and lessons are deleted", pigeons, proof(add(1, -4), add(1), remove(1, -4), remove(1, 2), add()), refutes(4)},
		{"pigeons that share a hole", pigeons, proof(remove(-3, -5), add(1), add()), bad(1)},
	})
}

func TestEdges(t *testing.T) {
	both := of(2, []int{1}, []int{-1})
	wantReports(t, []reported{
		{"no step", both, nil, fine},
		{"no step, no clause", of(2), nil, fine},
		{"no step, no variable", of(0), proof(), fine},
		{"no step, an empty clause", of(1, nil), nil, fine},
		{"only the empty clause, no clause", of(2), proof(add()), bad(0)},
		{"only the empty clause, no variable", of(0), proof(add()), bad(0)},
		{"only the empty clause, one that can be satisfied", of(2, []int{1}), proof(add()), bad(0)},
		{"only the empty clause, an empty one", of(2, []int{1}, nil), proof(add()), refutes(0)},
		{"no variable, an empty clause", of(0, []int{}), proof(add()), refutes(0)},
		{"an empty clause, and any others", of(2, nil), proof(add(-2), add(2), add(1, 2), add(-1), add()), refutes(4)},
		{"an empty clause is deleted", of(2, nil), proof(remove(), add()), bad(1)},
		{"an empty clause is deleted, no variable", of(0, nil), proof(remove(), add()), bad(1)},
		{"one of two empty clauses is deleted", of(0, nil, nil), proof(remove(), add()), refutes(1)},
		{"two of two empty clauses are deleted", of(0, nil, nil), proof(remove(), remove(), add()), bad(2)},
		{"an empty clause that is not there is deleted", both, proof(remove(), add()), refutes(1)},
		{"an empty clause is deleted, and nothing else", both, proof(remove()), fine},
		{"a clause that is there already", of(2, []int{2, 1}), proof(add(1, 2), add(2, 1)), fine},
	})
}

// The checker ends where a proof refutes, and a proof does not refute any more after a step that is not valid.
func TestWhereItEnds(t *testing.T) {
	both := of(3, []int{1}, []int{-1})
	one := of(3, []int{1}, []int{2, 3})
	wantReports(t, []reported{
		{"once more", both, proof(add(), add()), refutes(0)},
		{"all is deleted behind it", both, proof(add(2), add(), remove(1), remove(-1), add()), refutes(1)},
		{"what would not be valid behind it", both, proof(add(), remove(1), remove(), add(1, 2), add(2), add(-2)), refutes(0)},
		{"what is not valid makes the next one so", one, proof(add(-1), add()), bad(0)},
		{"what is not valid, and what is", one, proof(add(2), add(-1), add(1), add()), bad(1)},
		{"three that are not valid", one, proof(add(1), add(-1), add(-1, -1), add()), bad(1)},
		{"the last one", one, proof(add(1), add(2), add(3, -3), add(-1)), bad(3)},
		{"only the empty one is not valid", one, proof(remove(1), add(2), add(), add(1)), bad(2)},
	})
}

func TestDeletions(t *testing.T) {
	twice := of(2, []int{1}, []int{1, 1}, []int{-1})
	three := of(2, []int{1, 2}, []int{1, -2}, []int{-1})
	wantReports(t, []reported{
		{"one that stands twice, once", twice, proof(remove(1), add()), refutes(1)},
		{"one that stands twice, twice", twice, proof(remove(1), remove(1), add()), bad(2)},
		{"more often than it stands", twice, proof(remove(1), remove(1, 1), remove(1), remove(-1), add(1), add(-1), add()), bad(5)},
		{"deleted, and added again", three, proof(remove(1, 2), add(1, 2), add()), bad(1)},
		{"added, and deleted once", three, proof(add(2, 1), remove(1, 2), add()), refutes(2)},
		{"added, and deleted twice", three, proof(add(2, 1), remove(1, 2), remove(1, 2), add()), bad(3)},
		{"a part of a clause is none", three, proof(remove(1), remove(2), remove(-2), add()), refutes(3)},
		{"more than a clause is none", three, proof(remove(1, 2, -2), remove(-1, 2), add()), refutes(2)},
		{"another sign", three, proof(remove(-1, -2), remove(1), add()), refutes(2)},
		{"in another order, and with doubled literals", three, proof(remove(-2, 1, -2), add()), bad(1)},
		{"of one literal", three, proof(remove(-1), add()), bad(1)},
		{"what makes a step not valid", of(2, []int{-1, 2}), proof(remove(-1, 2), add(1)), fine},
		{"nothing else than that", of(2, []int{-1, 2}), proof(remove(2, 1), remove(-1), add(1)), bad(2)},
	})
}

// A step may be valid only by its first literal, which depends on the clauses that have its negation.
func TestByFirstLiteral(t *testing.T) {
	two := of(3, []int{1, 2}, []int{-1, -2})
	wantReports(t, []reported{
		{"no clause has the negation", of(3, []int{1, 2}), proof(add(1)), fine},
		{"none has it, but of another literal", of(3, []int{-1, 2}), proof(add(3, 1)), fine},
		{"that literal is not the first one", of(3, []int{-1, 2}), proof(add(1, 3)), bad(0)},
		{"no clauses", of(1), proof(add(-1), add(1)), bad(1)},
		{"a clause of that alone", of(2, []int{-1}), proof(add(1, 2)), bad(0)},
		{"one clause has it, and is met", two, proof(add(-1, 2)), bad(0)},
		{"one clause has it, and the rest is opposed", of(3, []int{-1, -2}), proof(add(1, 2, 3)), fine},
		{"a definition", of(3, []int{1, 2}), proof(add(3, -1, -2), add(-3, 1), add(-3, 2)), fine},
		{"half a definition, that literal first", of(3, []int{-1, 2}), proof(add(3, -1, -2), add(-3, 1)), fine},
		{"half a definition, another literal first", of(3, []int{-1, 2}), proof(add(3, -1, -2), add(1, -3)), bad(1)},
		{"a definition, and one clause too many", of(3, []int{1, 2}), proof(add(3, -1, -2), add(-3, 1), add(-3, -2)), bad(2)},
		{"of two clauses the first one is not implied", of(3, []int{-1, 2}, []int{-1, 3}, []int{1, 3}), proof(add(1)), bad(0)},
		{"of two clauses the last one is not implied", of(3, []int{-1, 3}, []int{-1, 2}, []int{1, 3}), proof(add(1)), bad(0)},
		{"both are", of(3, []int{-1, 3}, []int{-1, 2}, []int{1, 3}, []int{1, 2}), proof(add(1), add(2), add(3)), fine},
		{"one that stands twice is deleted once", of(3, []int{-1, 2}, []int{-1, 2}), proof(remove(-1, 2), add(1)), bad(1)},
		{"one that stands twice is deleted twice", of(3, []int{-1, 2}, []int{-1, 2}), proof(remove(-1, 2), remove(-1, 2), add(1)), fine},
		{"a clause that was added has it", of(3), proof(add(-1, 2), add(1)), bad(1)},
		{"a clause that was deleted had it", of(3), proof(add(-1, 2), remove(2, -1), add(1)), fine},
		{"the literals of the step are used, too", of(3, []int{-1, 2}, []int{1, 2, 3}), proof(add(1, 3)), fine},
	})
}

// Doubled literals change nothing; tautologies are clauses as others are.
func TestDoubledAndTautologies(t *testing.T) {
	wantReports(t, []reported{
		{"doubled in a step", of(2, []int{1, 2}, []int{-1, 2}), proof(add(2, 2), remove(2), add(2, 2, 2), add(-2)), bad(3)},
		{"a doubled first literal", of(3, []int{-1, 2}, []int{1, 2}), proof(add(1, 1)), fine},
		{"a doubled first literal that is not valid", of(3, []int{-1, 2}), proof(add(1, 1)), bad(0)},
		{"its negation doubled in a clause", of(3, []int{-1, 2, -1, 2}, []int{1, 1, 2}), proof(add(1)), fine},
		{"doubled in a formula that is refuted", of(2, []int{1, 1, 2}, []int{-2, 1, -2}, []int{-1, -1}), proof(add()), refutes(0)},
		{"a tautology is always valid", of(3, []int{1}), proof(add(-1, 1), add(3, 2, -3), add(-2, 1, 2, -1)), fine},
		{"a tautology of the formula does not clash", of(2, []int{1, -1}, []int{2}), proof(add()), bad(0)},
		{"without its negation a tautology is not implied", of(2, []int{1, -1}), proof(add(1)), bad(0)},
		{"without its negation another one still is", of(2, []int{-1, 2, -2}), proof(add(1)), fine},
		{"a tautology that was added", of(2), proof(add(1, -1), add(1)), bad(1)},
		{"a tautology that was deleted again", of(2), proof(add(1, -1), remove(-1, 1, -1), add(1)), fine},
	})
}

// Pigeons of whom there is one more than holes are refuted by definitions, which are valid only by their first literals.
func TestDefinitions(t *testing.T) {
	for holes := 1; holes <= 6; holes++ {
		f, steps := pigeonhole(holes)
		last := len(steps) - 1
		wantReport(t, f, steps, refutes(last))
		wantReport(t, f, steps[:last], fine)
		if holes < 3 {
			continue
		}
		turned := clone(steps)
		slices.Reverse(turned[0].Lits)
		wantReport(t, f, turned, bad(0))
	}
}

// A proof of which one step is left out, or has another first literal, is held against the definition.
func TestSpoiltDefinitions(t *testing.T) {
	for holes := 2; holes <= 3; holes++ {
		f, steps := pigeonhole(holes)
		for i, x := range steps {
			left := slices.Delete(slices.Clone(steps), i, i+1)
			wantReport(t, f, left, report(f, left))
			for k := range x.Lits {
				turned := slices.Clone(steps)
				turned[i] = add(slices.Concat(x.Lits[k:], x.Lits[:k])...)
				wantReport(t, f, turned, report(f, turned))
			}
		}
	}
}

// Without any one of its clauses, the formula can be satisfied.
func TestTooFewPigeons(t *testing.T) {
	f, steps := pigeonhole(4)
	for i := range f.Clauses {
		open := of(f.Vars, slices.Delete(slices.Clone(f.Clauses), i, i+1)...)
		if r, err := check.Check(open, steps); r.Refutes || r.End != -1 || r.Bad < 0 || err != api.OK {
			t.Errorf("without %v: %v, %v", f.Clauses[i], r, err)
		}
	}
}

// A literal of no variable of the formula is told wherever it is, also behind the end.
func TestForeignLiterals(t *testing.T) {
	for _, vars := range []int{0, 1, 3} {
		f := of(vars, nil)
		for _, l := range append([]int{vars + 1, -vars - 1, vars + 2}, wrong...) {
			for _, x := range []api.Step{add(l), remove(l), add(append(all(vars), l)...), remove(append([]int{l}, all(vars)...)...)} {
				wantError(t, f, proof(x), api.ErrArg)
				wantError(t, f, proof(add(), x), api.ErrArg)
				wantError(t, f, proof(remove(), add(), x, add()), api.ErrArg)
				wantError(t, of(vars), proof(add(all(vars)...), add(), x), api.ErrArg)
			}
		}
		for _, l := range all(vars) {
			wantReport(t, f, proof(remove(l), add(l), add()), refutes(2))
		}
	}
	f := of(api.MaxVars, []int{api.MaxVars})
	wantReport(t, f, proof(add(api.MaxVars), remove(-api.MaxVars), add(-api.MaxVars)), bad(2))
	wantError(t, f, proof(add(api.MaxVars+1)), api.ErrArg)
	wantError(t, f, proof(add(), add(-api.MaxVars-1)), api.ErrArg)
}

func TestTexts(t *testing.T) {
	f := of(2, []int{1}, []int{-1})
	cases := []struct {
		text string
		want check.Report
		err  api.Errno
	}{
		{"", fine, api.OK},
		{"0\n", refutes(0), api.OK},
		{"2 0\nd 1 0\n0\n", bad(2), api.OK},
		{"d 2 0\n-2 2 0\n0\n-2 0\n", refutes(2), api.OK},
		{"0", check.Report{}, api.ErrForm},
		{"0\n0", check.Report{}, api.ErrForm},
		{"0\n\n", check.Report{}, api.ErrForm},
		{"2 0\n 0\n", check.Report{}, api.ErrForm},
		{"0\r\n", check.Report{}, api.ErrForm},
		{"0\nd\n", check.Report{}, api.ErrForm},
		{"1 02 0\n", check.Report{}, api.ErrForm},
		{"0\n100001 0\n", check.Report{}, api.ErrForm},
		{"100000 0\n", check.Report{}, api.ErrArg},
		{"0\nd -3 0\n", check.Report{}, api.ErrArg},
		{"3 0\n0", check.Report{}, api.ErrForm},
		{"3 0\nx 0\n", check.Report{}, api.ErrForm},
		{"0\n-3 0\n4", check.Report{}, api.ErrForm},
	}
	for _, c := range cases {
		if got, err := check.Text(f, c.text); got != c.want || err != c.err {
			t.Errorf("Text of %q is %v, %v", c.text, got, err)
		}
	}
}

func TestBytes(t *testing.T) {
	f := of(2, []int{1}, []int{-1})
	cases := []struct {
		bytes string
		want  check.Report
		err   api.Errno
	}{
		{"", fine, api.OK},
		{"a\x00", refutes(0), api.OK},
		{"a\x04\x00d\x02\x00a\x00", bad(2), api.OK},
		{"d\x04\x00a\x05\x04\x00a\x00a\x05\x00", refutes(2), api.OK},
		{"a", check.Report{}, api.ErrShort},
		{"a\x00d\x04", check.Report{}, api.ErrShort},
		{"a\x00a\x82", check.Report{}, api.ErrShort},
		{"b\x00", check.Report{}, api.ErrForm},
		{"a\x00\x00", check.Report{}, api.ErrForm},
		{"a\x01\x00", check.Report{}, api.ErrForm},
		{"a\x82\x00\x00", check.Report{}, api.ErrForm},
		{"0\n", check.Report{}, api.ErrForm},
		{"a\x06\x00", check.Report{}, api.ErrArg},
		{"a\x00d\x07\x00", check.Report{}, api.ErrArg},
		{"a\x06\x00a", check.Report{}, api.ErrShort},
		{"a\x00a\x07", check.Report{}, api.ErrShort},
		{"a\x06\x00x", check.Report{}, api.ErrForm},
	}
	for _, c := range cases {
		b := []byte(c.bytes)
		if got, err := check.Binary(f, b); got != c.want || err != c.err {
			t.Errorf("Binary of %q is %v, %v", c.bytes, got, err)
		}
		if string(b) != c.bytes {
			t.Errorf("%q became %q", c.bytes, b)
		}
	}
	if got, err := check.Binary(f, nil); got != fine || err != api.OK {
		t.Errorf("Binary of nothing is %v, %v", got, err)
	}
}

func TestMay(t *testing.T) {
	chain := [][]int{{-1, 2}, {-2, 3}}
	cases := []struct {
		clauses [][]int
		c       []int
		may, by bool
	}{
		{nil, nil, false, false},
		{nil, []int{1}, true, true},
		{nil, []int{-1}, true, true},
		{nil, []int{1, -1}, true, true},
		{[][]int{nil}, nil, true, false},
		{[][]int{nil}, []int{-3}, true, true},
		{[][]int{{1}, {-1}}, nil, true, false},
		{[][]int{{1}, {-1}}, []int{2, 1}, true, true},
		{chain, nil, false, false},
		{chain, []int{-1, 3}, true, true},
		{chain, []int{3, -1}, true, true},
		{chain, []int{3, 1}, true, true},
		{chain, []int{1, 3}, false, false},
		{chain, []int{1, 2}, false, false},
		{chain, []int{2, 1}, false, false},
		{chain, []int{1}, false, false},
		{chain, []int{-3}, false, false},
		{chain, []int{3}, true, true},
		{chain, []int{-1}, true, true},
		{chain, []int{-2, 1}, true, true},
		{chain, []int{1, -2}, true, true},
		{chain, []int{-2, 3}, true, true},
		{chain, []int{2, -3}, true, true},
		{chain, []int{-3, 1}, false, false},
		{chain, []int{-2, -1, 1}, true, true},
	}
	for _, c := range cases {
		s := made(t, 3, c.clauses...)
		for range 2 {
			if got := check.May(s, c.c); got != c.may || may(c.clauses, c.c) != c.may {
				t.Errorf("%v: May of %v is %v", c.clauses, c.c, got)
			}
			if got := check.By(s, c.c); got != c.by || by(c.clauses, c.c) != c.by {
				t.Errorf("%v: By of %v is %v", c.clauses, c.c, got)
			}
		}
	}
}

// Neither call changes the store, or what it says later.
func TestStoreStays(t *testing.T) {
	r := recurrence(5)
	for range 300 {
		f := r.formula(9, 4)
		s, fresh := made(t, f.Vars, f.Clauses...), made(t, f.Vars, f.Clauses...)
		for range 20 {
			c := r.literals(r.below(5), f.Vars)
			check.May(s, c)
			check.By(s, c)
		}
		if s.Len() != len(f.Clauses) {
			t.Fatalf("%v: now %d clauses", f, s.Len())
		}
		for _, l := range all(f.Vars) {
			if !slices.EqualFunc(slices.Collect(s.With(l)), slices.Collect(fresh.With(l)), slices.Equal) {
				t.Fatalf("%v: the clauses with %d are others", f, l)
			}
			got, ok := s.Follow([]int{l})
			want, fine := fresh.Follow([]int{l})
			if !slices.Equal(got, want) || ok != fine {
				t.Fatalf("%v: from %d follows something else", f, l)
			}
		}
	}
}

// What is said of a clause is by the clauses that are there then.
func TestStoreChanges(t *testing.T) {
	s := rup.New(2)
	if !check.May(s, []int{1}) {
		t.Error("without clauses")
	}
	s.Add([]int{-1, 2})
	if check.May(s, []int{1}) || check.By(s, []int{1}) {
		t.Error("with one that has the negation")
	}
	s.Add([]int{1, 2})
	if !check.May(s, []int{1}) || !check.By(s, []int{1}) {
		t.Error("with one more")
	}
	s.Remove([]int{2, 1})
	if check.May(s, []int{1}) || check.By(s, []int{1}) {
		t.Error("without it")
	}
}

// Neither a formula, nor steps, nor the memory behind their slices are changed.
func TestArgumentsStay(t *testing.T) {
	r := recurrence(3)
	for range 300 {
		f := r.formula(8, 3)
		steps := r.proof(8, f)
		for i, c := range f.Clauses {
			f.Clauses[i] = roomy(c)
		}
		for i, x := range steps {
			steps[i].Lits = roomy(x.Lits)
		}
		keptFormula, keptSteps := cnf.Copy(f), clone(steps)
		check.Check(f, steps)
		check.Check(f, append(steps, add(9), remove(-9)))
		for _, x := range steps {
			s := made(t, f.Vars, f.Clauses...)
			check.May(s, x.Lits)
			check.By(s, x.Lits)
			wantRoom(t, x.Lits)
		}
		for _, c := range f.Clauses {
			wantRoom(t, c)
		}
		if !drat.Same(steps, keptSteps) || !slices.EqualFunc(f.Clauses, keptFormula.Clauses, slices.Equal) {
			t.Fatalf("%v and %v became %v and %v", keptFormula, keptSteps, f, steps)
		}
	}
}

// Chains as long as there may be, and many clauses that have the negation of a first literal.
func TestMany(t *testing.T) {
	const n = api.MaxVars
	f := of(n, []int{1})
	for v := 1; v < n; v++ {
		f.Clauses = append(f.Clauses, []int{-v, v + 1})
	}
	wantReport(t, f, proof(add(n), remove(n), add(-1, n), add(n/2), add()), bad(4))
	f.Clauses = append(f.Clauses, []int{-n})
	wantReport(t, f, proof(add(n/2), remove(-1, 2), add(-n/2), add()), refutes(3))

	many := of(1000)
	for v := 2; v <= many.Vars; v++ {
		many.Clauses = append(many.Clauses, []int{-1, v}, []int{v, 1})
	}
	wantReport(t, many, proof(add(1), remove(1, 2), add(-1)), bad(2))
	wantReport(t, many, proof(remove(1, many.Vars), add(1)), bad(1))
	wantReport(t, many, proof(remove(1, many.Vars), remove(-1, many.Vars), add(1)), fine)
}

// P0 for this layer: whatever is passed, each call returns.
func TestWrongInputsReturn(t *testing.T) {
	numbers := append([]int{-3, -2, -1, 1, 2, 3}, wrong...)
	for _, vars := range append([]int{-1, 0, 1, 2, 3}, wrong...) {
		s := rup.New(vars)
		for _, x := range numbers {
			for _, y := range numbers {
				c := []int{x, y, x}
				s.Add(c[:1])
				check.May(s, c)
				check.By(s, c)
				check.By(s, c[1:])
				f := of(vars, c, nil, c[:2], []int{1}, []int{-y})
				check.Check(f, proof(add(1), remove(x), add(c...), add()))
				check.Check(f, proof(remove(1), remove(1), remove(), add(1), add()))
			}
		}
		f := of(vars, numbers)
		check.Text(f, "1 0\n-1 0\n0\n")
		check.Binary(f, []byte("a\x02\x00a\x03\x00a\x00"))
	}
	check.Check(api.Formula{}, nil)
	if check.May(nil, []int{1}) || check.May(nil, nil) || check.By(nil, []int{1}) || check.By(nil, nil) {
		t.Error("without a store, a step is valid")
	}
}
