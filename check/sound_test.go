package check_test

import (
	"slices"
	"strings"
	"testing"

	"bradawl/api"
	"bradawl/check"
	"bradawl/cnf"
	"bradawl/drat"
)

// satisfiable reports whether some assignment satisfies clauses.
func satisfiable(vars int, clauses [][]int) bool {
	_, ok := cnf.Brute(of(vars, clauses...))
	return ok
}

// small returns all clauses of two variables with up to three literals, in every order.
func small() [][]int {
	out := [][]int{nil}
	for i := 0; len(out[i]) < 3; i++ {
		for _, l := range all(2) {
			out = append(out, append(slices.Clone(out[i]), l))
		}
	}
	return out
}

// different returns those of some clauses of which none is the same as one before it.
func different(clauses [][]int) [][]int {
	var out [][]int
	for _, c := range clauses {
		if !slices.ContainsFunc(out, func(d []int) bool { return same(c, d) }) {
			out = append(out, c)
		}
	}
	return out
}

// wantStep tests a step that adds a clause against the definition, and that it keeps assignments that satisfy, if there are any.
func wantStep(t *testing.T, vars int, clauses [][]int, c []int) bool {
	t.Helper()
	s := made(t, vars, clauses...)
	valid := check.May(s, c)
	if valid != may(clauses, c) {
		t.Fatalf("%v: May of %v is %v", clauses, c, valid)
	}
	if got := check.By(s, c); got != by(clauses, c) {
		t.Fatalf("%v: By of %v is %v", clauses, c, got)
	}
	if valid && satisfiable(vars, clauses) && !satisfiable(vars, slices.Concat(clauses, [][]int{c})) {
		t.Fatalf("%v: %v is valid, and then no assignment satisfies", clauses, c)
	}
	return valid
}

// P8.1 and P8.3 for all steps that add a clause of up to three literals to up to three clauses of two variables.
func TestSmallSteps(t *testing.T) {
	steps := small()
	clauses := different(steps)
	valid, not := 0, 0
	for i, c := range clauses {
		for k, d := range clauses[:i+1] {
			for _, e := range clauses[:k+1] {
				for _, x := range steps {
					if wantStep(t, 2, [][]int{c, d, e}, x) {
						valid++
					} else {
						not++
					}
				}
			}
		}
	}
	if valid < 1000 || not < 1000 {
		t.Errorf("only %d steps are valid, and %d are not", valid, not)
	}
}

// P8.1 and P8.3 for steps that add clauses to many others.
func TestSteps(t *testing.T) {
	r := recurrence(19)
	implications, firsts, not := 0, 0, 0
	for range 4000 {
		f := r.formula(5+r.below(20), 1+r.below(6))
		c := r.literals(r.below(4), f.Vars)
		switch valid := wantStep(t, f.Vars, f.Clauses, c); {
		case !valid:
			not++
		case implied(f.Clauses, c):
			implications++
		default:
			firsts++
		}
	}
	if implications < 500 || firsts < 500 || not < 500 {
		t.Errorf("only %d are implied, %d are valid by the first literal, and %d are not valid", implications, firsts, not)
	}
}

// P8.1 for proofs of all kinds: whether they refute, and where, is held against the definition.
func TestByDefinition(t *testing.T) {
	r := recurrence(23)
	refuting, notValid, other := 0, 0, 0
	for range 6000 {
		f := r.formula(20, 1+r.below(4))
		steps := r.proof(12, f)
		want := report(f, steps)
		wantReport(t, f, steps, want)
		if t.Failed() {
			return
		}
		switch {
		case want.Refutes:
			refuting++
		case want.Bad >= 0:
			notValid++
		default:
			other++
		}
	}
	if refuting < 200 || notValid < 1000 || other < 200 {
		t.Errorf("only %d refute, %d are not valid, and %d are neither", refuting, notValid, other)
	}
}

// grown returns a proof of so many attempts at steps, of which only those are taken that are valid, and whether one of them is valid only by its first literal.
func grown(t *testing.T, r *recurrence, f api.Formula, attempts int) ([]api.Step, bool) {
	t.Helper()
	var steps []api.Step
	clauses := slices.Clone(f.Clauses)
	first := false
	for range attempts {
		x := api.Step{Delete: r.below(6) == 0, Lits: r.literals(r.below(4), f.Vars)}
		if len(clauses) > 0 && x.Delete {
			i := r.below(len(clauses))
			x.Lits = clauses[i]
			// Of clauses that are the same it does not matter which one is deleted.
			clauses = slices.Delete(clauses, i, i+1)
		}
		next := append(slices.Clip(steps), x)
		got, err := check.Check(f, next)
		if err != api.OK {
			t.Fatalf("%v: %v for %v", f, err, next)
		}
		if got.Bad >= 0 {
			continue
		}
		if !x.Delete {
			first = first || !implied(clauses, x.Lits)
			clauses = append(clauses, x.Lits)
		}
		steps = next
		if got.Refutes {
			break
		}
	}
	return steps, first
}

// P8.2: what proofs that are as long as they can be refute, no assignment satisfies, and they do refute some.
func TestRefutesOnlyWhatIsSo(t *testing.T) {
	r := recurrence(29)
	refuted, byFirst, satisfied := 0, 0, 0
	for range 400 {
		f := r.formula(60, 3)
		// Clauses of one literal would let most formulas clash from the start; a variable that no clause has is good for definitions.
		f.Clauses = slices.DeleteFunc(f.Clauses, func(c []int) bool { return len(c) < 2 || same(c, c[:1]) })
		f.Vars++
		steps, first := grown(t, &r, f, 40)
		got, _ := check.Check(f, steps)
		wantReport(t, f, steps, report(f, steps))
		sat := satisfiable(f.Vars, f.Clauses)
		switch {
		case got.Refutes && sat:
			t.Fatalf("%v is refuted by %v", f, steps)
		case got.Refutes && first:
			byFirst++
		case got.Refutes:
			refuted++
		case sat:
			satisfied++
		}
	}
	if refuted < 20 || byFirst < 20 || satisfied < 100 {
		t.Errorf("only %d are refuted, %d of them by first literals, and %d can be satisfied", refuted+byFirst, byFirst, satisfied)
	}
}

// planted returns a formula that an assignment satisfies.
func planted(r *recurrence) api.Formula {
	f := r.formula(24, 2+r.below(4))
	a := make([]bool, f.Vars)
	for i := range a {
		a[i] = r.below(2) == 0
	}
	f.Clauses = slices.DeleteFunc(f.Clauses, func(c []int) bool { return !cnf.Clause(c, a) })
	return f
}

// P8.2: no proof of any kind, in any form, refutes a formula that can be satisfied; and none comes to a valid empty clause after valid steps.
func TestSatisfiableIsNeverRefuted(t *testing.T) {
	r := recurrence(31)
	for range 1500 {
		f := planted(&r)
		steps := r.proof(15, f)
		if r.below(3) == 0 {
			steps, _ = grown(t, &r, f, 15)
		}
		steps = append(steps, add())
		want := report(f, steps)
		if want.Refutes || want.Bad < 0 {
			t.Fatalf("%v: the definition itself is not sound for %v", f, steps)
		}
		wantReport(t, f, steps, want)
	}
}

// Texts and bytes that are put together from pieces are told to be no proof, or reported as the proof they are; none refutes what can be satisfied.
func TestPieces(t *testing.T) {
	r := recurrence(37)
	texts := []string{"0\n", "0\n", "1 ", "-1 ", "2 ", "-2 ", "3 ", "-3 ", "1 0\n", "2 -1 0\n", "d ", "d 1 2 0\n", "\n", " ", "4 ", "x", "0"}
	groups := []string{"a", "a", "d", "\x00", "\x00", "\x02", "\x03", "\x04", "\x05", "\x06", "\x07", "a\x02\x00", "a\x00", "\x82\x01", "\x88", "\x08", "\x01"}
	count := map[api.Errno]int{}
	for range 20000 {
		f := of(3, r.literals(2, 3), r.literals(2, 3), []int{3, 1, -2})
		if r.below(2) == 0 {
			f.Clauses = append(f.Clauses, nil)
		}
		var text, bytes strings.Builder
		for range r.below(7) {
			text.WriteString(texts[r.below(len(texts))])
			bytes.WriteString(groups[r.below(len(groups))])
		}
		steps, no := drat.ParseText(text.String())
		got, err := check.Text(f, text.String())
		wantParsed(t, f, steps, no, got, err)
		count[err]++
		steps, no = drat.ParseBinary([]byte(bytes.String()))
		got, err = check.Binary(f, []byte(bytes.String()))
		wantParsed(t, f, steps, no, got, err)
		count[err]++
	}
	if count[api.OK] < 1000 || count[api.ErrArg] < 300 || count[api.ErrForm] < 1000 || count[api.ErrShort] < 300 {
		t.Errorf("how often each error came: %v", count)
	}
}

// wantParsed tests what is told of a text or bytes with these steps, or with an error of parsing them.
func wantParsed(t *testing.T, f api.Formula, steps []api.Step, no api.Errno, got check.Report, err api.Errno) {
	t.Helper()
	foreign := slices.ContainsFunc(steps, func(x api.Step) bool {
		return slices.ContainsFunc(x.Lits, func(l int) bool { return l > f.Vars || l < -f.Vars })
	})
	want, wrong := check.Report{}, no
	switch {
	case no != api.OK:
	case foreign:
		wrong = api.ErrArg
	default:
		want = report(f, steps)
	}
	if got != want || err != wrong {
		t.Fatalf("%v: %v is %v, %v, not %v, %v", f, steps, got, err, want, wrong)
	}
	if got.Refutes && satisfiable(f.Vars, f.Clauses) {
		t.Fatalf("%v is refuted by %v", f, steps)
	}
}

// The same calls have the same results, whatever is called in between.
func TestCallsApart(t *testing.T) {
	r := recurrence(41)
	var formulas []api.Formula
	var proofs [][]api.Step
	var reports []check.Report
	for range 50 {
		f := r.formula(12, 3)
		steps := r.proof(9, f)
		got, _ := check.Check(f, steps)
		formulas, proofs, reports = append(formulas, f), append(proofs, steps), append(reports, got)
	}
	for i := range formulas {
		k := len(formulas) - 1 - i
		wantReport(t, formulas[k], proofs[k], reports[k])
	}
}
