package trail_test

import (
	"maps"
	"math"
	"slices"
	"testing"

	"bradawl/api"
	"bradawl/trail"
)

// extremes are numbers that are no literals, no indices and no levels of any trail, or of the largest one alone.
var extremes = []int{
	math.MinInt, math.MinInt + 1, math.MinInt32, -1 << 32, -200000, -100001, -100000, -99999,
	99999, 100000, 100001, 199999, 200000, math.MaxInt32, 1 << 32, 1<<32 + 1, math.MaxInt - 1, math.MaxInt,
}

// A recurrence stands in for a random source, so that every run tests the same.
type recurrence uint32

// below returns a number from 0 to n - 1.
func (r *recurrence) below(n int) int {
	*r = *r*1664525 + 1013904223
	return int(*r>>8) % n
}

// A record is a literal on the trail as the chapter describes it.
type record struct {
	l, level, reason int
}

// A model is a trail by the chapter's words.
type model struct {
	vars, level int
	records     []record
	phases      map[int]bool
}

// newModel is New.
func newModel(vars int) *model {
	return &model{vars: vars, phases: map[int]bool{}}
}

// both returns a trail and its model.
func both(vars int) (*trail.Trail, *model) {
	return trail.New(vars), newModel(vars)
}

// isVariable reports whether v is one.
func (m *model) isVariable(v int) bool {
	return 1 <= v && v <= m.vars
}

// isLiteral reports whether l is one.
func (m *model) isLiteral(l int) bool {
	return m.isVariable(l) || m.isVariable(-l)
}

// place is Place.
func (m *model) place(l int) int {
	if !m.isLiteral(l) {
		return -1
	}
	return slices.IndexFunc(m.records, func(x record) bool { return x.l == l || x.l == -l })
}

// put is Put.
func (m *model) put(l, reason int) bool {
	if !m.isLiteral(l) || m.place(l) >= 0 {
		return false
	}
	m.records = append(m.records, record{l, m.level, reason})
	m.phases[max(l, -l)] = l > 0
	return true
}

// decide is Decide.
func (m *model) decide(l int) bool {
	m.level++
	if !m.put(l, -1) {
		m.level--
		return false
	}
	return true
}

// back is Back.
func (m *model) back(level int) []int {
	m.level = min(m.level, max(level, 0))
	var out []int
	for n := len(m.records); n > 0 && m.records[n-1].level > m.level; n = len(m.records) {
		out = append(out, m.records[n-1].l)
		m.records = m.records[:n-1]
	}
	return out
}

// setPhase is SetPhase.
func (m *model) setPhase(v int, is bool) bool {
	if m.isVariable(v) {
		m.phases[v] = is
	}
	return m.isVariable(v)
}

// moved is Moved.
func (m *model) moved(refs map[int]int) {
	for i, x := range m.records {
		if ref, ok := refs[x.reason]; ok {
			m.records[i].reason = ref
		}
	}
}

// assignment is Assignment.
func (m *model) assignment() []bool {
	var out []bool
	for v := 1; v <= m.vars; v++ {
		is := m.phases[v]
		if i := m.place(v); i >= 0 {
			is = m.records[i].l == v
		}
		out = append(out, is)
	}
	return out
}

// numberAgrees holds all that a trail tells of a number against its model.
func numberAgrees(t *testing.T, x *trail.Trail, m *model, l int) {
	t.Helper()
	at, value, level, reason := 0, 0, -1, -1
	if l >= 0 && l < len(m.records) {
		at = m.records[l].l
	}
	place := m.place(l)
	if place >= 0 {
		level, reason = m.records[place].level, m.records[place].reason
		value = -1
		if m.records[place].l == l {
			value = 1
		}
	}
	if got := x.At(l); got != at {
		t.Fatalf("At(%d) is %d, not %d", l, got, at)
	}
	if x.Place(l) != place || x.Value(l) != value {
		t.Fatalf("%d has place %d and value %d, not %d and %d", l, x.Place(l), x.Value(l), place, value)
	}
	if x.LevelOf(l) != level || x.Reason(l) != reason {
		t.Fatalf("%d has level %d and reason %d, not %d and %d", l, x.LevelOf(l), x.Reason(l), level, reason)
	}
	if got, want := x.Phase(l), m.isVariable(l) && m.phases[l]; got != want {
		t.Fatalf("Phase(%d) is %v", l, got)
	}
}

// agree holds all that a trail tells against its model.
func agree(t *testing.T, x *trail.Trail, m *model) {
	t.Helper()
	if x.Level() != m.level || x.Len() != len(m.records) {
		t.Fatalf("level %d and %d literals, not %d and %d", x.Level(), x.Len(), m.level, len(m.records))
	}
	if got := x.Full(); got != (len(m.records) == m.vars) {
		t.Fatalf("Full is %v with %d of %d", got, len(m.records), m.vars)
	}
	if got := x.Assignment(); !slices.Equal(got, m.assignment()) {
		t.Fatalf("the assignment is %v, not %v", got, m.assignment())
	}
	for l := -m.vars - 3; l <= m.vars+3; l++ {
		numberAgrees(t, x, m, l)
	}
	for _, l := range extremes {
		numberAgrees(t, x, m, l)
	}
}

// put performs Put on both.
func put(t *testing.T, x *trail.Trail, m *model, l, reason int) {
	t.Helper()
	if got, want := x.Put(l, reason), m.put(l, reason); got != want {
		t.Fatalf("Put(%d, %d) is %v", l, reason, got)
	}
}

// decide performs Decide on both.
func decide(t *testing.T, x *trail.Trail, m *model, l int) {
	t.Helper()
	if got, want := x.Decide(l), m.decide(l); got != want {
		t.Fatalf("Decide(%d) is %v", l, got)
	}
}

// back performs Back on both.
func back(t *testing.T, x *trail.Trail, m *model, level int) {
	t.Helper()
	if got, want := x.Back(level), m.back(level); !slices.Equal(got, want) {
		t.Fatalf("Back(%d) is %v, not %v", level, got, want)
	}
}

// setPhase performs SetPhase on both.
func setPhase(t *testing.T, x *trail.Trail, m *model, v int, is bool) {
	t.Helper()
	if got, want := x.SetPhase(v, is), m.setPhase(v, is); got != want {
		t.Fatalf("SetPhase(%d, %v) is %v", v, is, got)
	}
}

// moved performs Moved on both, and holds that refs stay as they are.
func moved(t *testing.T, x *trail.Trail, m *model, refs map[int]int) {
	t.Helper()
	kept := maps.Clone(refs)
	x.Moved(refs)
	m.moved(refs)
	if !maps.Equal(refs, kept) {
		t.Fatalf("the refs became %v", refs)
	}
}

// tall returns a trail of nine variables with six literals, at the levels 0, 0, 1, 2, 2 and 3, and its model.
func tall(t *testing.T) (*trail.Trail, *model) {
	t.Helper()
	x, m := both(9)
	put(t, x, m, 5, -1)
	put(t, x, m, -2, 0)
	decide(t, x, m, 9)
	decide(t, x, m, -1)
	put(t, x, m, 3, 7)
	decide(t, x, m, -7)
	agree(t, x, m)
	return x, m
}

// wantBools holds truth values against what is said.
func wantBools(t *testing.T, got, want []bool) {
	t.Helper()
	if !slices.Equal(got, want) {
		t.Errorf("%v, not %v", got, want)
	}
}

func TestExample(t *testing.T) {
	x := trail.New(2)
	x.Decide(-2)
	x.Put(1, 7)
	if got := x.Back(0); !slices.Equal(got, []int{1, -2}) {
		t.Errorf("Back(0) is %v", got)
	}
	wantBools(t, []bool{x.Phase(1), x.Phase(2)}, []bool{true, false})
}

// P12.1: a new trail is empty, and its phases are false.
func TestNew(t *testing.T) {
	for _, vars := range []int{0, 1, 2, 3, 10, 40} {
		x, m := both(vars)
		agree(t, x, m)
		back(t, x, m, 0)
		agree(t, x, m)
	}
	if x := trail.New(0); !x.Full() || len(x.Assignment()) != 0 || x.Put(1, -1) || x.Decide(-1) || x.SetPhase(1, true) {
		t.Error("a trail of no variables")
	}
}

// P12.1: what Put and Decide put there is told by number, with what they state of it.
func TestPutAndTell(t *testing.T) {
	x, _ := tall(t)
	for i, want := range []record{{5, 0, -1}, {-2, 0, 0}, {9, 1, -1}, {-1, 2, -1}, {3, 2, 7}, {-7, 3, -1}} {
		l := x.At(i)
		if l != want.l || x.Place(l) != i || x.Place(-l) != i || x.Value(l) != 1 || x.Value(-l) != -1 {
			t.Errorf("at %d is %d, with place %d and value %d", i, l, x.Place(l), x.Value(l))
		}
		for _, k := range []int{l, -l} {
			if x.LevelOf(k) != want.level || x.Reason(k) != want.reason {
				t.Errorf("%d has level %d and reason %d", k, x.LevelOf(k), x.Reason(k))
			}
		}
	}
	if x.Level() != 3 || x.Len() != 6 || x.Full() || x.At(6) != 0 || x.At(-1) != 0 {
		t.Errorf("level %d and %d literals", x.Level(), x.Len())
	}
}

// P12.1: Put and Decide refuse what is no literal of the variables, and change nothing then.
func TestForeignLiterals(t *testing.T) {
	for _, vars := range []int{0, 1, 2, 9} {
		x, m := both(vars)
		for _, l := range append([]int{0, vars + 1, -vars - 1, vars + 2, 2 * vars, 2*vars + 1}, extremes...) {
			put(t, x, m, l, 3)
			agree(t, x, m)
			decide(t, x, m, l)
			agree(t, x, m)
			if !m.isLiteral(l) && (x.Put(l, -1) || x.Decide(l)) {
				t.Errorf("%d of %d variables was put there", l, vars)
			}
		}
	}
}

// P12.1: Put and Decide refuse a variable that is there, with either sign and at any level, and change nothing then.
func TestVariablesThatAreThere(t *testing.T) {
	x, m := tall(t)
	setPhase(t, x, m, 1, true)
	setPhase(t, x, m, 5, false)
	for _, y := range slices.Clone(m.records) {
		for _, l := range []int{y.l, -y.l} {
			if x.Put(l, 4) || x.Put(l, -1) || x.Decide(l) {
				t.Errorf("%d was put there again", l)
			}
			agree(t, x, m)
		}
	}
}

// P12.1: a reason may be any number, and stands as it was given.
func TestReasons(t *testing.T) {
	x, m := both(len(extremes) + 6)
	for i, reason := range append([]int{-3, -2, -1, 0, 1, 2}, extremes...) {
		put(t, x, m, i+1, reason)
		if x.Reason(i+1) != reason || x.Reason(-i-1) != reason {
			t.Errorf("the reason is %d, not %d", x.Reason(i+1), reason)
		}
	}
	agree(t, x, m)
	if !x.Full() {
		t.Error("the trail is not full")
	}
}

// P12.1: Decide is at the next level, and Put at the current one.
func TestLevels(t *testing.T) {
	x, m := both(8)
	for v := 1; v <= 8; v += 2 {
		decide(t, x, m, -v)
		put(t, x, m, v+1, v)
		level := v/2 + 1
		if x.Level() != level || x.LevelOf(v) != level || x.LevelOf(v+1) != level || x.Reason(v) != -1 || x.Reason(v+1) != v {
			t.Errorf("%d is at level %d of %d", v, x.LevelOf(v), x.Level())
		}
		agree(t, x, m)
	}
	if !x.Full() || x.Decide(1) || x.Level() != 4 {
		t.Error("the trail is not full")
	}
}

// P12.1: Back to each level removes exactly the higher ones, and one that is not there is the nearest one that is.
func TestBack(t *testing.T) {
	cases := []struct {
		level, after int
		removed      []int
	}{
		{math.MinInt, 0, []int{-7, 3, -1, 9}}, {-2, 0, []int{-7, 3, -1, 9}}, {-1, 0, []int{-7, 3, -1, 9}}, {0, 0, []int{-7, 3, -1, 9}},
		{1, 1, []int{-7, 3, -1}}, {2, 2, []int{-7}}, {3, 3, nil}, {4, 3, nil}, {1000, 3, nil}, {math.MaxInt, 3, nil},
	}
	for _, c := range cases {
		x, m := tall(t)
		got := x.Back(c.level)
		if !slices.Equal(got, c.removed) || x.Level() != c.after || x.Len() != 6-len(c.removed) {
			t.Errorf("Back(%d) is %v, to level %d", c.level, got, x.Level())
		}
		m.back(c.level)
		agree(t, x, m)
		back(t, x, m, c.level)
		agree(t, x, m)
	}
}

// P12.1: what is at level 0 is never removed, and Back of a trail without decisions removes nothing.
func TestBackAtLevelNone(t *testing.T) {
	x, m := both(3)
	put(t, x, m, 2, 8)
	put(t, x, m, -3, 9)
	for _, level := range append([]int{-1, 0, 1, 2}, extremes...) {
		if got := x.Back(level); len(got) != 0 {
			t.Errorf("Back(%d) is %v", level, got)
		}
		agree(t, x, m)
	}
}

// P12.1: what was removed may be put there again, otherwise than before.
func TestAfterBack(t *testing.T) {
	x, m := tall(t)
	back(t, x, m, 1)
	put(t, x, m, 7, 30)
	put(t, x, m, -3, -1)
	agree(t, x, m)
	decide(t, x, m, 1)
	agree(t, x, m)
	if x.Value(7) != 1 || x.LevelOf(7) != 1 || x.Place(7) != 3 || x.Reason(7) != 30 || x.LevelOf(1) != 2 {
		t.Errorf("7 is at %d, with level %d and reason %d", x.Place(7), x.LevelOf(7), x.Reason(7))
	}
	back(t, x, m, 1)
	agree(t, x, m)
	back(t, x, m, 0)
	agree(t, x, m)
	decide(t, x, m, 7)
	agree(t, x, m)
}

// P12.1: a phase is what came last, of putting the variable there and of setting it; Back does not change it.
func TestPhases(t *testing.T) {
	x, m := both(3)
	setPhase(t, x, m, 2, true)
	wantBools(t, x.Assignment(), []bool{false, true, false})
	decide(t, x, m, -2)
	put(t, x, m, 3, 1)
	wantBools(t, []bool{x.Phase(1), x.Phase(2), x.Phase(3)}, []bool{false, false, true})
	// Setting a phase does not change the value of what is on the trail.
	setPhase(t, x, m, 2, true)
	setPhase(t, x, m, 3, false)
	wantBools(t, []bool{x.Phase(1), x.Phase(2), x.Phase(3)}, []bool{false, true, false})
	wantBools(t, x.Assignment(), []bool{false, false, true})
	agree(t, x, m)
	back(t, x, m, 0)
	wantBools(t, x.Assignment(), []bool{false, true, false})
	agree(t, x, m)
	put(t, x, m, -2, -1)
	setPhase(t, x, m, 1, true)
	wantBools(t, x.Assignment(), []bool{true, false, false})
	agree(t, x, m)
}

// P12.1: SetPhase and Phase know variables alone, and no negations.
func TestPhasesOfNothing(t *testing.T) {
	x, m := both(4)
	for v := 1; v <= 4; v++ {
		setPhase(t, x, m, v, true)
	}
	for _, v := range append([]int{0, -1, -2, -4, -5, 5, 6, 8}, extremes...) {
		for _, is := range []bool{false, true} {
			if x.SetPhase(v, is) || x.Phase(v) {
				t.Errorf("there is a phase of %d", v)
			}
			agree(t, x, m)
		}
	}
}

// P12.1: each reason is replaced once, at all levels, also one that is -1, or becomes -1.
func TestMoved(t *testing.T) {
	cases := []struct {
		refs map[int]int
		want []int
	}{
		{nil, []int{-1, 0, -1, -1, 7, -1}}, {map[int]int{}, []int{-1, 0, -1, -1, 7, -1}},
		{map[int]int{7: 2}, []int{-1, 0, -1, -1, 2, -1}}, {map[int]int{0: 7, 7: 0}, []int{-1, 7, -1, -1, 0, -1}},
		{map[int]int{0: 7, 7: 9, 9: 11}, []int{-1, 7, -1, -1, 9, -1}}, {map[int]int{7: 6, 6: 5, 5: 0, 0: 4}, []int{-1, 4, -1, -1, 6, -1}},
		{map[int]int{-1: 7, 7: -1}, []int{7, 0, 7, 7, -1, 7}}, {map[int]int{-1: 0, 0: -1}, []int{0, -1, 0, 0, 7, 0}},
		{map[int]int{7: math.MinInt, 0: math.MaxInt}, []int{-1, math.MaxInt, -1, -1, math.MinInt, -1}},
		{map[int]int{1: 3, 2: 4, 8: 5, -2: 6}, []int{-1, 0, -1, -1, 7, -1}}, {map[int]int{7: 7, 0: 0}, []int{-1, 0, -1, -1, 7, -1}},
	}
	for _, c := range cases {
		x, m := tall(t)
		moved(t, x, m, c.refs)
		agree(t, x, m)
		for i, want := range c.want {
			if got := x.Reason(x.At(i)); got != want {
				t.Errorf("with %v the reason of %d is %d, not %d", c.refs, x.At(i), got, want)
			}
		}
	}
}

// P12.1: Moved has an effect on what is on the trail, and not on what is put there later.
func TestMovedBefore(t *testing.T) {
	x, m := tall(t)
	back(t, x, m, 1)
	moved(t, x, m, map[int]int{-1: 50, 7: 60, 0: 70})
	agree(t, x, m)
	if x.Reason(3) != -1 || x.Reason(-7) != -1 || x.Reason(4) != -1 {
		t.Error("there is a reason for what is not on the trail")
	}
	put(t, x, m, 3, 7)
	decide(t, x, m, 4)
	put(t, x, m, -6, -1)
	agree(t, x, m)
	moved(t, x, m, map[int]int{50: 51})
	agree(t, x, m)
	if x.Reason(3) != 7 || x.Reason(4) != -1 || x.Reason(6) != -1 || x.Reason(9) != 51 {
		t.Errorf("the reasons are %d, %d, %d, %d", x.Reason(3), x.Reason(4), x.Reason(6), x.Reason(9))
	}
}

// P12.1: Full is true with the last variable, and no longer when one is removed.
func TestFull(t *testing.T) {
	x, m := both(3)
	for i, l := range []int{-3, 1, -2} {
		if x.Full() {
			t.Errorf("full with %d", i)
		}
		decide(t, x, m, l)
	}
	if !x.Full() {
		t.Error("not full with 3")
	}
	wantBools(t, x.Assignment(), []bool{true, false, false})
	back(t, x, m, 2)
	if x.Full() {
		t.Error("full with 2 of 3")
	}
	agree(t, x, m)
}

// What Back and Assignment return belongs to the caller: it does not change with the trail, nor the trail with it.
func TestBelongs(t *testing.T) {
	x, m := tall(t)
	x.Assignment()[0] = true
	agree(t, x, m)
	early := x.Assignment()
	kept := slices.Clone(early)
	got := x.Back(1)
	m.back(1)
	agree(t, x, m)
	put(t, x, m, 8, 4)
	put(t, x, m, -4, 5)
	decide(t, x, m, -6)
	if !slices.Equal(got, []int{-7, 3, -1}) || !slices.Equal(early, kept) {
		t.Errorf("what was returned became %v and %v", got, early)
	}
	_ = append(got, 7777, 7777, 7777)
	got = got[:cap(got)]
	for i := range got {
		got[i] = 7777
	}
	_ = append(early, true, true, true)
	for i := range early {
		early[i] = !early[i]
	}
	agree(t, x, m)
	first := x.Back(1)
	m.back(1)
	decide(t, x, m, 1)
	x.Back(1)
	m.back(1)
	if !slices.Equal(first, []int{-6}) {
		t.Errorf("what was returned became %v", first)
	}
	agree(t, x, m)
}

// Moved does not retain the refs.
func TestRefsAreNotRetained(t *testing.T) {
	x, m := tall(t)
	refs := map[int]int{7: 8}
	moved(t, x, m, refs)
	refs[8], refs[0], refs[-1] = 1, 2, 3
	agree(t, x, m)
}

// Trails have nothing to do with each other.
func TestTrailsApart(t *testing.T) {
	x, m := tall(t)
	y, n := tall(t)
	back(t, x, m, 0)
	setPhase(t, x, m, 6, true)
	put(t, y, n, 4, 12)
	moved(t, y, n, map[int]int{0: 5})
	agree(t, x, m)
	agree(t, y, n)
}

// calls is how many calls perform knows.
const calls = 13

// perform performs one of the calls that change a trail of two variables.
func perform(t *testing.T, x *trail.Trail, m *model, call int) {
	t.Helper()
	literals := []int{1, -1, 2, -2}
	switch {
	case call < 4:
		put(t, x, m, literals[call], call)
	case call < 8:
		decide(t, x, m, literals[call-4])
	case call < 11:
		back(t, x, m, call-8)
	case call < 12:
		setPhase(t, x, m, 1, true)
	case call < calls:
		moved(t, x, m, map[int]int{-1: 0, 0: 1, 1: 2, 2: 3, 3: -1})
	}
}

// P12.1: all sequences of four calls on two variables.
func TestSmallTrails(t *testing.T) {
	for number := range calls * calls * calls * calls {
		x, m := both(2)
		for range 4 {
			perform(t, x, m, number%calls)
			agree(t, x, m)
			number /= calls
		}
	}
}

// literal returns a number that is most often a literal of the variables.
func (r *recurrence) literal(vars int) int {
	if r.below(40) == 0 {
		return extremes[r.below(len(extremes))]
	}
	return r.below(2*vars+3) - vars - 1
}

// refs returns refs as Compact may state them, and others.
func (r *recurrence) refs() map[int]int {
	out := map[int]int{}
	for range r.below(8) {
		out[r.below(12)-1] = r.below(12) - 1
	}
	return out
}

// step performs a call that changes, on a trail and its model, and holds its results against each other.
func step(t *testing.T, r *recurrence, x *trail.Trail, m *model) {
	t.Helper()
	l := r.literal(m.vars)
	switch r.below(12) {
	case 0, 1, 2:
		put(t, x, m, l, r.below(12)-1)
	case 3, 4, 5, 6, 7:
		decide(t, x, m, l)
	case 8:
		level := r.below(m.level+4) - 1
		if r.below(10) == 0 {
			level = extremes[r.below(len(extremes))]
		}
		back(t, x, m, level)
	case 9:
		setPhase(t, x, m, l, r.below(2) == 0)
	case 10:
		moved(t, x, m, r.refs())
	case 11:
		// One level only, so that trails become high.
		back(t, x, m, m.level-1)
	}
}

// Trails are held against the definitions after each of many calls.
func TestByDefinition(t *testing.T) {
	r := recurrence(12)
	full, high := 0, 0
	for n := range 600 {
		x, m := both(n % 13)
		for range 80 {
			step(t, &r, x, m)
			agree(t, x, m)
			if m.vars > 3 && x.Full() {
				full++
			}
			if m.level > 5 {
				high++
			}
		}
	}
	if full < 100 || high < 100 {
		t.Errorf("full only %d times, and high %d times", full, high)
	}
}

// P12.1: as many variables as there may be, each decided.
func TestLarge(t *testing.T) {
	x := trail.New(api.MaxVars)
	sign := func(v int) int { return v * (v%3%2*2 - 1) }
	for v := api.MaxVars; v > 0; v-- {
		if !x.Decide(sign(v)) || x.Decide(-v) || x.Put(v, 1) {
			t.Fatalf("Decide of %d", v)
		}
	}
	if !x.Full() || x.Level() != api.MaxVars || x.Put(api.MaxVars+1, 0) || x.Put(-api.MaxVars-1, 0) {
		t.Fatalf("level %d", x.Level())
	}
	for v, is := range x.Assignment() {
		if is != (sign(v+1) > 0) || x.LevelOf(v+1) != api.MaxVars-v || x.Place(-v-1) != api.MaxVars-v-1 {
			t.Fatalf("%d is %v, at level %d", v+1, is, x.LevelOf(v+1))
		}
	}
	x.Moved(map[int]int{-1: 100})
	removed := x.Back(10)
	if len(removed) != api.MaxVars-10 || x.Level() != 10 || x.Reason(api.MaxVars) != 100 || x.Reason(1) != -1 {
		t.Fatalf("Back removes %d", len(removed))
	}
	for i, l := range removed {
		if l != sign(i+1) || x.Value(l) != 0 || x.Phase(i+1) != (l > 0) {
			t.Fatalf("%d is removed with index %d", l, i)
		}
	}
}

// P0 for this layer: whatever numbers are passed, each call returns, also on trails of numbers that no trail may have.
func TestWrongInputsReturn(t *testing.T) {
	for _, vars := range append([]int{-3, -1, 0, 1, 2}, extremes...) {
		x := trail.New(vars)
		for _, n := range append([]int{-2, -1, 0, 1, 2}, extremes...) {
			x.Put(n, n)
			x.Decide(n)
			x.SetPhase(n, true)
			x.Back(n)
			for _, k := range []int{n, -n} {
				x.At(k)
				x.Place(k)
				x.Value(k)
				x.LevelOf(k)
				x.Reason(k)
				x.Phase(k)
			}
			x.Moved(map[int]int{n: -n, -1: n})
		}
		x.Moved(nil)
		if x.Full() != (x.Len() == len(x.Assignment())) || x.Level() > x.Len() {
			t.Errorf("of %d variables: level %d and %d literals", vars, x.Level(), x.Len())
		}
	}
}
