package check_test

import (
	"fmt"
	"math"
	"slices"
	"testing"

	"bradawl/api"
	"bradawl/check"
	"bradawl/drat"
	"bradawl/rup"
)

// wrong are numbers that are literals of no variables, or of more than a small formula has.
var wrong = []int{0, math.MinInt, math.MinInt + 1, math.MinInt / 2, -api.MaxVars - 1, -api.MaxVars, api.MaxVars, api.MaxVars + 1, math.MaxInt / 2, math.MaxInt - 1, math.MaxInt}

// A recurrence stands in for a random source, so that every run tests the same.
type recurrence uint32

// below returns a number from 0 to n - 1.
func (r *recurrence) below(n int) int {
	*r = *r*1664525 + 1013904223
	return int(*r>>8) % n
}

// literals returns as many of so many variables, perhaps some of them several times.
func (r *recurrence) literals(n, vars int) []int {
	out := make([]int, n)
	for i := range out {
		out[i] = (1 + r.below(vars)) * (1 - 2*r.below(2))
	}
	return out
}

// formula returns one of so many variables, with fewer than n clauses of up to three literals, hardly any of them empty.
func (r *recurrence) formula(n, vars int) api.Formula {
	f := api.Formula{Vars: vars}
	for range r.below(n) {
		size := 1 + r.below(3)
		if r.below(100) == 0 {
			size = 0
		}
		f.Clauses = append(f.Clauses, r.literals(size, vars))
	}
	return f
}

// proof returns one of fewer than n steps for a formula: clauses of its own, deletions of what is there and of what is not, and empty clauses.
func (r *recurrence) proof(n int, f api.Formula) []api.Step {
	var out []api.Step
	known := slices.Clone(f.Clauses)
	for range r.below(n) {
		x := api.Step{Delete: r.below(4) == 0}
		switch k := r.below(8); {
		case k == 0 && !x.Delete:
		case k < 4 && len(known) > 0:
			x.Lits = slices.Clone(known[r.below(len(known))])
			r.shuffle(x.Lits)
		case f.Vars > 0:
			x.Lits = r.literals(1+r.below(3), f.Vars)
		}
		if len(x.Lits) > 0 && r.below(5) == 0 {
			x.Lits = append(x.Lits, x.Lits[0])
		}
		known = append(known, x.Lits)
		out = append(out, x)
	}
	return out
}

// shuffle changes the order of literals.
func (r *recurrence) shuffle(c []int) {
	for i := range c {
		k := r.below(i + 1)
		c[i], c[k] = c[k], c[i]
	}
}

// add returns a step that adds a clause.
func add(lits ...int) api.Step {
	return api.Step{Lits: lits}
}

// remove returns a step that deletes one.
func remove(lits ...int) api.Step {
	return api.Step{Delete: true, Lits: lits}
}

// proof returns one of these steps.
func proof(steps ...api.Step) []api.Step {
	return steps
}

// of returns a formula with these clauses.
func of(vars int, clauses ...[]int) api.Formula {
	return api.Formula{Vars: vars, Clauses: clauses}
}

// refutes is the report of a proof that does so with a step.
func refutes(end int) check.Report {
	return check.Report{Refutes: true, End: end, Bad: -1}
}

// bad is the report of a proof with a step that is not valid.
func bad(i int) check.Report {
	return check.Report{End: -1, Bad: i}
}

// fine is the report of a proof that does not refute, and whose steps are valid.
var fine = check.Report{End: -1, Bad: -1}

// has reports whether literals have all of some others.
func has(list, literals []int) bool {
	return !slices.ContainsFunc(literals, func(l int) bool { return !slices.Contains(list, l) })
}

// same reports whether two clauses have exactly the same literals.
func same(c, d []int) bool {
	return has(c, d) && has(d, c)
}

// without returns literals without one of them.
func without(c []int, l int) []int {
	var out []int
	for _, x := range c {
		if x != l {
			out = append(out, x)
		}
	}
	return out
}

// negations returns those of some literals.
func negations(c []int) []int {
	out := make([]int, len(c))
	for i, l := range c {
		out[i] = -l
	}
	return out
}

// implied tells by the chapters' words whether a clause is: it goes over all clauses until nothing more follows, and only then looks for a clash.
func implied(clauses [][]int, c []int) bool {
	known := negations(c)
	for more := true; more; {
		more = false
		for _, d := range clauses {
			for _, l := range d {
				if !slices.Contains(known, l) && has(known, negations(without(d, l))) {
					known, more = append(known, l), true
				}
			}
		}
	}
	for _, l := range known {
		if slices.Contains(known, -l) {
			return true
		}
	}
	return slices.ContainsFunc(clauses, func(d []int) bool { return has(known, negations(d)) })
}

// by tells by the chapter's words whether a clause is valid by its first literal.
func by(clauses [][]int, c []int) bool {
	if len(c) == 0 {
		return false
	}
	for _, d := range clauses {
		if slices.Contains(d, -c[0]) && !implied(clauses, slices.Concat(c, without(d, -c[0]))) {
			return false
		}
	}
	return true
}

// may tells by the chapter's words whether a step that adds a clause is valid.
func may(clauses [][]int, c []int) bool {
	return implied(clauses, c) || by(clauses, c)
}

// report returns by the chapter's words that of a proof: it goes on to its end, whatever it meets.
func report(f api.Formula, steps []api.Step) check.Report {
	out := fine
	clauses := slices.Clone(f.Clauses)
	for i, x := range steps {
		place := slices.IndexFunc(clauses, func(c []int) bool { return same(c, x.Lits) })
		valid := x.Delete || may(clauses, x.Lits)
		switch {
		case out.Refutes:
		case x.Delete && place >= 0:
			clauses = slices.Delete(clauses, place, place+1)
		case x.Delete:
		case !valid && out.Bad < 0:
			out.Bad = i
		case len(x.Lits) == 0 && valid && out.Bad < 0:
			out.Refutes, out.End = true, i
		default:
			clauses = append(clauses, x.Lits)
		}
	}
	return out
}

// made returns a store with these clauses.
func made(t *testing.T, vars int, clauses ...[]int) *rup.Store {
	t.Helper()
	s := rup.New(vars)
	for _, c := range clauses {
		if !s.Add(c) {
			t.Fatalf("%v was not added", c)
		}
	}
	return s
}

// wantReport tests the report of a proof as it is, as text, and as bytes.
func wantReport(t *testing.T, f api.Formula, steps []api.Step, want check.Report) {
	t.Helper()
	if got, err := check.Check(f, steps); got != want || err != api.OK {
		t.Errorf("%.300s: Check of %.300s is %v, %v, not %v", fmt.Sprint(f), fmt.Sprint(steps), got, err, want)
	}
	if got, err := check.Text(f, drat.Text(steps)); got != want || err != api.OK {
		t.Errorf("%.300s: Text of %.300s is %v, %v, not %v", fmt.Sprint(f), fmt.Sprint(steps), got, err, want)
	}
	if got, err := check.Binary(f, drat.Binary(steps)); got != want || err != api.OK {
		t.Errorf("%.300s: Binary of %.300s is %v, %v, not %v", fmt.Sprint(f), fmt.Sprint(steps), got, err, want)
	}
}

// wantError tests that a proof, its text and its bytes have an error, and no report.
func wantError(t *testing.T, f api.Formula, steps []api.Step, want api.Errno) {
	t.Helper()
	if got, err := check.Check(f, steps); got != (check.Report{}) || err != want {
		t.Errorf("%v: Check of %v is %v, %v", f, steps, got, err)
	}
	if !drat.Right(steps) {
		return
	}
	if got, err := check.Text(f, drat.Text(steps)); got != (check.Report{}) || err != want {
		t.Errorf("%v: Text of %v is %v, %v", f, steps, got, err)
	}
	if got, err := check.Binary(f, drat.Binary(steps)); got != (check.Report{}) || err != want {
		t.Errorf("%v: Binary of %v is %v, %v", f, steps, got, err)
	}
}

// A reported proof is one with its report.
type reported struct {
	name  string
	f     api.Formula
	steps []api.Step
	want  check.Report
}

// wantReports tests each of these, and that the definition asks for the same.
func wantReports(t *testing.T, cases []reported) {
	t.Helper()
	for _, c := range cases {
		t.Run(c.name, func(t *testing.T) {
			wantReport(t, c.f, c.steps, c.want)
			if got := report(c.f, c.steps); got != c.want {
				t.Errorf("by the definition, the report is %v", got)
			}
		})
	}
}

// all returns all literals of so many variables.
func all(vars int) []int {
	var out []int
	for v := 1; v <= vars; v++ {
		out = append(out, v, -v)
	}
	return out
}

// clone returns the same proof in memory of its own.
func clone(steps []api.Step) []api.Step {
	out := slices.Clone(steps)
	for i := range out {
		out[i].Lits = slices.Clone(out[i].Lits)
	}
	return out
}

// behind is what lies in the memory behind a roomy slice.
const behind = 77

// roomy returns the same literals, with memory behind them.
func roomy(c []int) []int {
	out := append(slices.Clone(c), behind, behind, behind, behind, behind)
	return out[:len(c)]
}

// wantRoom tests that the memory behind a roomy slice is as it was.
func wantRoom(t *testing.T, c []int) {
	t.Helper()
	for _, l := range c[len(c) : len(c)+5] {
		if l != behind {
			t.Fatalf("behind %v stands %d", c, l)
		}
	}
}

// A coop names by variables which of its pigeons, one more than holes, sits in which hole.
type coop struct {
	holes, first int
}

// in returns the variable that states that a pigeon sits in a hole.
func (c coop) in(pigeon, hole int) int {
	return c.first + pigeon*c.holes + hole
}

// somewhere returns the clause that a pigeon sits in one of the holes.
func (c coop) somewhere(pigeon int) []int {
	var out []int
	for hole := range c.holes {
		out = append(out, c.in(pigeon, hole))
	}
	return out
}

// smaller returns the coop without the last pigeon and the last hole, and the steps that define it: who sat in the last hole takes the place of the last pigeon.
func (c coop) smaller() (coop, []api.Step) {
	last := c.holes - 1
	d := coop{holes: last, first: c.first + (c.holes+1)*c.holes}
	var out []api.Step
	for i := range c.holes {
		for h := range last {
			sits, sat, moves, place := d.in(i, h), c.in(i, h), c.in(i, last), c.in(c.holes, h)
			out = append(out, add(sits, -sat), add(sits, -moves, -place), add(-sits, sat, moves), add(-sits, sat, place))
		}
	}
	for i := range c.holes {
		out = append(out, add(d.somewhere(i)...))
	}
	for i := range c.holes {
		for k := range i {
			for h := range last {
				out = append(out, add(-d.in(i, h), -d.in(k, h), c.in(i, h)), add(-d.in(i, h), -d.in(k, h)))
			}
		}
	}
	return d, out
}

// pigeonhole returns the formula that each pigeon sits in a hole of its own, with all variables that are defined, and a proof that refutes it.
func pigeonhole(holes int) (api.Formula, []api.Step) {
	c := coop{holes: holes, first: 1}
	f := api.Formula{}
	for i := range holes + 1 {
		f.Clauses = append(f.Clauses, c.somewhere(i))
		for k := range i {
			for h := range holes {
				f.Clauses = append(f.Clauses, []int{-c.in(i, h), -c.in(k, h)})
			}
		}
	}
	var steps []api.Step
	for c.holes > 1 {
		d, more := c.smaller()
		c, steps = d, append(steps, more...)
	}
	f.Vars = c.first + 1
	return f, append(steps, add())
}
