package watch_test

import (
	"math"
	"slices"
	"testing"

	"bradawl/api"
	"bradawl/arena"
	"bradawl/trail"
	"bradawl/watch"
)

// extremes are numbers that are no refs, no literals and no levels, or those of the largest things alone.
var extremes = []int{
	math.MinInt, math.MinInt + 1, math.MinInt32, -1 << 32, -100001, -100000, -1,
	99999, 100000, 100001, math.MaxInt32, 1 << 32, 1<<32 + 1, math.MaxInt - 1, math.MaxInt,
}

// A recurrence stands in for a random source, so that every run tests the same.
type recurrence uint32

// below returns a number from 0 to n - 1.
func (r *recurrence) below(n int) int {
	*r = *r*1664525 + 1013904223
	return int(*r>>8) % n
}

// A model is a propagator by the chapter's words, beside the one that is held against it.
type model struct {
	vars     int
	arena    *arena.Arena
	trail    *trail.Trail
	watcher  *watch.Watcher
	attached map[int][]int // the literals of the attached clauses, by their refs
	visits   int
	free     bool // decisions may be made
	clashed  bool // the last Propagate returned false, and since then no lower level was gone back to, and nothing attached
}

// newModel is New.
func newModel(vars int) *model {
	m := &model{vars: vars, arena: arena.New(0), trail: trail.New(vars), attached: map[int][]int{}}
	m.watcher = watch.New(m.arena, m.trail, vars)
	return m
}

// with returns a model with attached clauses.
func with(t *testing.T, vars int, clauses ...[]int) *model {
	t.Helper()
	m := newModel(vars)
	for _, c := range clauses {
		m.attach(t, c)
	}
	return m
}

// attach adds a clause to the arena, and attaches it.
func (m *model) attach(t *testing.T, c []int) int {
	t.Helper()
	ref, _ := m.arena.Add(c, false, 0)
	before := m.literals()
	if !m.watcher.Attach(ref) {
		t.Fatalf("%v is not attached", c)
	}
	if !slices.Equal(before, m.literals()) {
		t.Fatalf("Attach makes %v of %v", m.literals(), before)
	}
	m.attached[ref] = slices.Clone(c)
	m.free, m.clashed = false, false
	return ref
}

// literals returns what is on the trail.
func (m *model) literals() []int {
	var out []int
	for i := range m.trail.Len() {
		out = append(out, m.trail.At(i))
	}
	return out
}

// value returns 1, -1 or 0, by some literals that are true.
func value(l int, trues []int) int {
	switch {
	case slices.Contains(trues, l):
		return 1
	case slices.Contains(trues, -l):
		return -1
	}
	return 0
}

// demands returns the literal of a clause that is a unit, or 0; and whether it clashes.
func demands(c, trues []int) (int, bool) {
	var open []int
	for _, l := range c {
		switch value(l, trues) {
		case 1:
			return 0, false
		case 0:
			open = append(open, l)
		}
	}
	if len(open) == 1 {
		return open[0], false
	}
	return 0, len(open) == 0
}

// follows returns what follows from literals by the attached clauses, and whether nothing clashes.
func (m *model) follows(trues []int) ([]int, bool) {
	out := slices.Clone(trues)
	for again := true; again; {
		again = false
		for _, c := range m.attached {
			l, clash := demands(c, out)
			if clash {
				return nil, false
			}
			if l != 0 {
				out = append(out, l)
				again = true
			}
		}
	}
	return out, true
}

// propagate performs Propagate, and holds it against the definition.
func (m *model) propagate(t *testing.T) (int, bool) {
	t.Helper()
	before, level := m.literals(), m.trail.Level()
	want, fine := m.follows(before)
	ref, ok := m.watcher.Propagate()
	if ok != fine {
		t.Fatalf("%v, level %d, with %v: Propagate returns %d, %v", m.attached, level, before, ref, ok)
	}
	now := m.literals()
	if m.trail.Level() != level || !slices.Equal(now[:len(before)], before) {
		t.Fatalf("Propagate makes %v of %v", now, before)
	}
	for i := len(before); i < len(now); i++ {
		m.holdReason(t, i)
	}
	if ok {
		m.holdAll(t, ref, now, want)
	} else if c, is := m.attached[ref]; !is || !allFalse(c, now) {
		t.Fatalf("%v does not clash, with %v", c, now)
	}
	m.free, m.clashed = ok, !ok
	m.holdVisits(t)
	return ref, ok
}

// holdAll holds what is on the trail after a Propagate that returned true against what follows.
func (m *model) holdAll(t *testing.T, ref int, now, want []int) {
	t.Helper()
	slices.Sort(now)
	slices.Sort(want)
	if ref != 0 || !slices.Equal(now, want) {
		t.Fatalf("%v: Propagate returns %d, with %v, not %v", m.attached, ref, now, want)
	}
}

// allFalse reports whether all literals of a clause are false.
func allFalse(c, trues []int) bool {
	return !slices.ContainsFunc(c, func(l int) bool { return value(l, trues) >= 0 })
}

// holdReason holds a literal that was put on the trail by Propagate against its reason.
func (m *model) holdReason(t *testing.T, i int) {
	t.Helper()
	l := m.trail.At(i)
	c, is := m.attached[m.trail.Reason(l)]
	others := slices.DeleteFunc(slices.Clone(c), func(x int) bool { return x == l })
	if !is || len(others) != len(c)-1 || !allFalse(others, m.literals()[:i]) || m.trail.LevelOf(l) != m.trail.Level() {
		t.Fatalf("%d, at level %d of %d, has the reason %v, with %v", l, m.trail.LevelOf(l), m.trail.Level(), c, m.literals()[:i])
	}
}

// holdVisits holds Visits against what it was.
func (m *model) holdVisits(t *testing.T) {
	t.Helper()
	if n := m.watcher.Visits(); n < m.visits {
		t.Fatalf("Visits falls from %d to %d", m.visits, n)
	}
	m.visits = m.watcher.Visits()
}

// decide makes a decision.
func (m *model) decide(t *testing.T, l int) {
	t.Helper()
	if !m.trail.Decide(l) {
		t.Fatalf("%d cannot be decided", l)
	}
}

// back performs Back, and holds it against what is on the trail.
func (m *model) back(t *testing.T, level int) {
	t.Helper()
	want := slices.DeleteFunc(m.literals(), func(l int) bool { return m.trail.LevelOf(l) <= max(level, 0) })
	slices.Reverse(want)
	to := min(m.trail.Level(), max(level, 0))
	if to < m.trail.Level() {
		m.free, m.clashed = m.free || m.clashed, false
	}
	if got := m.watcher.Back(level); !slices.Equal(got, want) || m.trail.Level() != to {
		t.Fatalf("Back(%d) is %v, not %v", level, got, want)
	}
	m.holdVisits(t)
}

// drop drops a clause.
func (m *model) drop(t *testing.T, ref int) {
	t.Helper()
	if !m.arena.Drop(ref) {
		t.Fatalf("there is nothing at %d", ref)
	}
	delete(m.attached, ref)
}

// compact performs Compact, and both Moved.
func (m *model) compact(t *testing.T) {
	t.Helper()
	refs := m.arena.Compact()
	m.watcher.Moved(refs)
	m.trail.Moved(refs)
	now := map[int][]int{}
	for ref, c := range m.attached {
		now[refs[ref]] = c
	}
	m.attached = now
	m.holdVisits(t)
}

// holdArena holds the literals of the attached clauses against what they were, in whatever order.
func (m *model) holdArena(t *testing.T) {
	t.Helper()
	for ref, c := range m.attached {
		got := m.arena.Lits(ref)
		slices.Sort(got)
		want := slices.Clone(c)
		slices.Sort(want)
		if !slices.Equal(got, want) {
			t.Fatalf("%v became %v", want, got)
		}
	}
}

// want holds the trail against literals, in any order.
func (m *model) want(t *testing.T, literals ...int) {
	t.Helper()
	got := m.literals()
	slices.Sort(got)
	slices.Sort(literals)
	if !slices.Equal(got, literals) {
		t.Errorf("on the trail: %v, not %v", got, literals)
	}
}

// P13.1: the chapter's example.
func TestExample(t *testing.T) {
	m := with(t, 3, []int{1, 2}, []int{-2, 3})
	m.propagate(t)
	m.want(t)
	m.decide(t, -1)
	if ref, ok := m.propagate(t); ref != 0 || !ok {
		t.Errorf("Propagate returns %d, %v", ref, ok)
	}
	if !slices.Equal(m.literals(), []int{-1, 2, 3}) || m.trail.Reason(2) != 0 || m.trail.Reason(3) != 5 {
		t.Errorf("%v, with the reasons %d and %d", m.literals(), m.trail.Reason(2), m.trail.Reason(3))
	}
}

// P13.1: without clauses nothing follows, and nothing clashes.
func TestNothingAttached(t *testing.T) {
	m := newModel(2)
	m.arena.Add(nil, false, 0)
	m.arena.Add([]int{1}, false, 0)
	for range 2 {
		if ref, ok := m.propagate(t); ref != 0 || !ok {
			t.Errorf("Propagate returns %d, %v", ref, ok)
		}
	}
	m.decide(t, -1)
	m.propagate(t)
	m.want(t, -1)
	if m.watcher.Visits() != 0 {
		t.Errorf("%d visits", m.watcher.Visits())
	}
}

// P13.1: Attach knows the refs of clauses that exist alone.
func TestAttachNothing(t *testing.T) {
	m := newModel(2)
	ref, _ := m.arena.Add([]int{1}, false, 0)
	m.arena.Drop(ref)
	next, _ := m.arena.Add([]int{1, 2}, false, 0)
	for _, n := range append([]int{ref, 1, next - 1, next + 1, next + 5}, extremes...) {
		if m.watcher.Attach(n) {
			t.Errorf("there is a clause at %d", n)
		}
	}
	m.propagate(t)
	m.want(t)
}

// P13.1: clauses of one literal and of none, and those that are satisfied or false, at level 0.
func TestAttachAtLevelNone(t *testing.T) {
	cases := []struct {
		clauses [][]int
		trail   []int
		clash   bool
	}{
		{[][]int{{}}, nil, true}, {[][]int{{1}}, []int{1}, false}, {[][]int{{-1}, {1}}, nil, true},
		{[][]int{{1}, {-1, 2}}, []int{1, 2}, false}, {[][]int{{-1, 2}, {1}}, []int{1, 2}, false},
		{[][]int{{-1}, {1, -2, 3}, {2}}, []int{-1, 2, 3}, false}, {[][]int{{-3}, {-1}, {1, -2, 3}, {2}}, nil, true},
		{[][]int{{-1}, {1, -3}, {3, 2, 1}}, []int{-1, -3, 2}, false}, {[][]int{{1}, {1, 2}, {1, 3, -2}}, []int{1}, false},
	}
	for _, c := range cases {
		// One after the other, and all at once.
		for _, each := range []bool{false, true} {
			m, clash := newModel(3), false
			for _, lits := range c.clauses {
				m.attach(t, lits)
				if each && !clash {
					_, ok := m.propagate(t)
					clash = !ok
				}
			}
			_, ok := m.propagate(t)
			if ok == c.clash {
				t.Errorf("%v: %v", c.clauses, ok)
			}
			if ok {
				m.want(t, c.trail...)
			}
		}
	}
}

// P13.1: a clash is found again, as long as nothing else is done.
func TestClashAgain(t *testing.T) {
	m := with(t, 4, []int{1, 2, 3}, []int{1, 2, -3}, []int{1, 4})
	m.propagate(t)
	m.decide(t, -1)
	m.propagate(t)
	m.decide(t, -2)
	for range 3 {
		if _, ok := m.propagate(t); ok {
			t.Error("there is no clash")
		}
	}
	m.back(t, 2)
	if _, ok := m.propagate(t); ok {
		t.Error("there is no clash")
	}
	m.back(t, 1)
	m.propagate(t)
	m.want(t, -1, 4)
	m.back(t, 0)
	empty := m.attach(t, nil)
	for range 3 {
		if ref, ok := m.propagate(t); ok || ref != empty {
			t.Errorf("%d is no clash", ref)
		}
	}
	m.drop(t, empty)
	m.propagate(t)
	m.want(t)
}

// P13.1: a clause that clashes, and is dropped, does not keep others from what follows from them.
func TestDroppedClash(t *testing.T) {
	m := with(t, 5, []int{1, 2}, []int{1, 3}, []int{1, -2}, []int{1, 4}, []int{1, 5})
	m.propagate(t)
	m.decide(t, -1)
	ref, ok := m.propagate(t)
	if ok {
		t.Fatal("there is no clash")
	}
	m.drop(t, ref)
	m.propagate(t)
	if m.trail.Value(3) != 1 || m.trail.Value(4) != 1 || m.trail.Value(5) != 1 {
		t.Errorf("on the trail: %v", m.literals())
	}
}

// P13.1: several clauses that are fresh, of which some clash: each of them counts when the others are dropped.
func TestDroppedFreshClashes(t *testing.T) {
	m := with(t, 3, nil, []int{1}, []int{-1}, nil, []int{-2}, []int{2, 3})
	for range 3 {
		ref, ok := m.propagate(t)
		if ok {
			t.Fatal("there is no clash")
		}
		m.drop(t, ref)
		m.compact(t)
	}
	if _, ok := m.propagate(t); !ok {
		t.Error("there is a clash")
	}
	m.want(t, m.trail.At(0), -2, 3)
}

// P13.1: a lesson is attached at the level of its second literal, and puts its first one there.
func TestAttachLesson(t *testing.T) {
	m := with(t, 5, []int{1, 2, 3}, []int{2, -3, 4}, []int{2, -3, -4}, []int{-5, -1})
	m.propagate(t)
	m.decide(t, 5)
	m.propagate(t)
	m.want(t, 5, -1)
	m.decide(t, -2)
	if _, ok := m.propagate(t); ok {
		t.Fatal("there is no clash")
	}
	m.back(t, 1)
	ref := m.attach(t, []int{2, 1})
	m.want(t, 5, -1)
	m.propagate(t)
	m.want(t, 5, -1, 2)
	if m.trail.Reason(2) != ref || m.trail.LevelOf(2) != 1 {
		t.Errorf("2 has the reason %d, and the level %d", m.trail.Reason(2), m.trail.LevelOf(2))
	}
	m.back(t, 0)
	m.propagate(t)
	m.decide(t, -2)
	m.propagate(t)
	m.want(t, -2, 1, -5)
	m.back(t, 0)
	m.decide(t, -1)
	m.propagate(t)
	m.want(t, -1, 2)
}

// P13.1: a lesson that is no unit any more when Propagate is called.
func TestLessonAfterBack(t *testing.T) {
	m := with(t, 4, []int{-1, 2})
	m.propagate(t)
	m.decide(t, 1)
	m.propagate(t)
	m.attach(t, []int{3, -2, -1})
	m.attach(t, []int{4, -1})
	m.back(t, 0)
	m.propagate(t)
	m.want(t)
	m.decide(t, -3)
	m.propagate(t)
	m.decide(t, 2)
	m.propagate(t)
	m.want(t, -3, 2, -1)
	m.back(t, 0)
	m.decide(t, -4)
	m.propagate(t)
	m.want(t, -4, -1)
}

// P13.1: two lessons of which the second one clashes with the first; after Back, decisions come before Propagate.
func TestLessonsThatClash(t *testing.T) {
	for _, decisions := range [][]int{{-3}, {2, -3}, {-3, 2}, {4, 2}, {-2, -3}, {2, 3}, {1, 2}, {3, 4, 2}, {2, 4, -3}} {
		m := newModel(4)
		m.propagate(t)
		m.decide(t, 1)
		m.decide(t, 2)
		m.propagate(t)
		m.attach(t, []int{3, -2})
		m.attach(t, []int{-3, -2, -1})
		if _, ok := m.propagate(t); ok {
			t.Fatal("there is no clash")
		}
		m.back(t, 0)
		for _, l := range decisions {
			m.decide(t, l)
		}
		for level := m.trail.Level(); level >= 0; level-- {
			m.propagate(t)
			m.back(t, level-1)
		}
	}
}

// P13.2: literals that others put on the trail count, at level 0 and above.
func TestPut(t *testing.T) {
	m := with(t, 6, []int{-1, 2}, []int{-3, -2, 4}, []int{-4, 5}, []int{-5, 6, -3})
	m.propagate(t)
	m.trail.Put(1, -1)
	m.propagate(t)
	m.want(t, 1, 2)
	m.decide(t, 3)
	m.propagate(t)
	m.want(t, 1, 2, 3, 4, 5, 6)
	m.back(t, 0)
	m.decide(t, -6)
	m.propagate(t)
	m.trail.Put(5, 77)
	m.propagate(t)
	m.want(t, 1, 2, -6, 5, -3)
	if m.trail.Reason(5) != 77 || m.trail.LevelOf(-3) != 1 {
		t.Errorf("the reason of 5 is %d, and -3 is at level %d", m.trail.Reason(5), m.trail.LevelOf(-3))
	}
}

// P13.2: what was satisfied at a level that is removed, when a literal of a lower level was gone through, is not satisfied any more.
func TestLateLowerLevels(t *testing.T) {
	m := with(t, 4, []int{-1, 2, 3}, []int{-1, 3, 4})
	m.propagate(t)
	m.decide(t, -4)
	m.propagate(t)
	m.trail.Put(1, -1)
	m.decide(t, 3)
	m.propagate(t)
	m.want(t, -4, 1, 3)
	m.back(t, 1)
	m.propagate(t)
	m.want(t, -4, 1, 3)
	if m.trail.LevelOf(3) != 1 {
		t.Errorf("3 is at level %d", m.trail.LevelOf(3))
	}
}

// P13.2: several decisions before one Propagate, and after it each lower level.
func TestDecisionsAtOnce(t *testing.T) {
	clauses := [][]int{{-1, -2, 4}, {-4, 5, -3}, {-1, 5, 6}, {-2, 6, 7}, {-6, -3, 7, 8}, {-8, -1, 7}}
	for _, decisions := range [][]int{{1, 2, 3}, {3, 2, 1}, {1, -6, -5}, {2, -7, -8, 3}, {8, 1, -7}, {-7, 2, 3, 1}, {6, 3, 8, -7, -4}, {1, -2, -5, 3}} {
		for at := range decisions {
			m := with(t, 8, clauses...)
			m.propagate(t)
			for i, l := range decisions {
				m.trail.Decide(l)
				if i == at {
					m.propagate(t)
				}
			}
			for level := m.trail.Level(); level >= 0; level-- {
				m.propagate(t)
				m.back(t, level-1)
			}
			m.want(t)
		}
	}
}

// P13.1: a clause that is dropped is no longer attached, in whatever state it was.
func TestDropped(t *testing.T) {
	clauses := [][]int{{1, 2}, {1, 3, 4}, {-2, 3}}
	for at := range clauses {
		for _, early := range []bool{false, true} {
			for _, moves := range []bool{false, true} {
				m := with(t, 4, clauses...)
				if !early {
					m.propagate(t)
					m.decide(t, -4)
					m.propagate(t)
					m.back(t, 0)
				}
				m.drop(t, []int{0, 5, 11}[at])
				if moves {
					m.compact(t)
				}
				m.propagate(t)
				m.decide(t, -1)
				m.propagate(t)
				m.decide(t, -4)
				m.propagate(t)
				m.holdArena(t)
			}
		}
	}
}

// P13.1: with Moved the clauses have their new refs, also where others were; what has gone does not come back with a new clause.
func TestMoved(t *testing.T) {
	m := with(t, 6, []int{6, 5}, []int{1, 2}, []int{6, 4}, []int{-2, 3}, []int{-3, 4, 5})
	m.propagate(t)
	m.drop(t, 0)
	m.drop(t, 10)
	m.decide(t, -1)
	m.propagate(t)
	m.compact(t)
	if m.trail.Reason(2) != 0 || m.trail.Reason(3) != 5 {
		t.Errorf("the reasons are %d and %d", m.trail.Reason(2), m.trail.Reason(3))
	}
	m.decide(t, -4)
	m.propagate(t)
	m.want(t, -1, 2, 3, -4, 5)
	if m.trail.Reason(5) != 10 {
		t.Errorf("the reason of 5 is %d", m.trail.Reason(5))
	}
	m.back(t, 0)
	m.drop(t, 10)
	m.compact(t)
	m.propagate(t)
	// At the ref where the clause -3 4 5 was.
	m.arena.Add([]int{-3, 4, 5}, true, 0)
	m.decide(t, -4)
	m.propagate(t)
	m.decide(t, 3)
	m.propagate(t)
	m.want(t, -4, 3)
	m.back(t, 0)
	m.attach(t, []int{-6, 3, 5})
	m.propagate(t)
	m.decide(t, 6)
	m.propagate(t)
	m.decide(t, -3)
	m.propagate(t)
	m.want(t, 6, -3, -2, 1, 5)
}

// P13.1: Moved also concerns clauses that were attached since the last Propagate.
func TestMovedFresh(t *testing.T) {
	m := with(t, 4, []int{4}, []int{1}, []int{-2}, []int{2, 3})
	m.drop(t, 0)
	m.compact(t)
	m.propagate(t)
	m.want(t, 1, -2, 3)
	if m.trail.Reason(1) != 0 || m.trail.Reason(2) != 4 || m.trail.Reason(3) != 8 {
		t.Errorf("the reasons are %d, %d, %d", m.trail.Reason(1), m.trail.Reason(2), m.trail.Reason(3))
	}
}

// P13.1: what was dropped since the last Propagate does not come back with a new clause.
func TestMovedFreshAndDropped(t *testing.T) {
	m := with(t, 2, []int{1})
	m.drop(t, 0)
	m.compact(t)
	m.arena.Add([]int{2}, false, 0)
	m.propagate(t)
	m.want(t)
}

// P13.1: Moved of the propagator leaves the trail as it is.
func TestMovedWithoutTrail(t *testing.T) {
	m := with(t, 2, nil, []int{1})
	m.drop(t, 0)
	m.propagate(t)
	m.watcher.Moved(m.arena.Compact())
	if m.trail.Reason(1) != 3 {
		t.Errorf("the reason of 1 is %d", m.trail.Reason(1))
	}
}

// P13.1: Back is that of the trail, for every level.
func TestBack(t *testing.T) {
	for _, level := range append([]int{0, 1, 2, 3, 4, 5}, extremes...) {
		m := with(t, 8, []int{-1, 2}, []int{-3, 4}, []int{-5, 6, 7}, []int{-4, -5, 8})
		m.propagate(t)
		for _, l := range []int{1, 3, 5} {
			m.decide(t, l)
			m.propagate(t)
		}
		m.back(t, level)
		m.propagate(t)
		if m.trail.Level() == 0 {
			m.want(t)
		}
	}
}

// P13.1: Visits counts, also what does not clash.
func TestVisits(t *testing.T) {
	m := with(t, 3, []int{1, 2, 3})
	m.propagate(t)
	m.decide(t, -1)
	m.propagate(t)
	m.decide(t, -2)
	m.propagate(t)
	if n := m.watcher.Visits(); n < 1 || n > 2 {
		t.Errorf("%d visits", n)
	}
	before := m.watcher.Visits()
	m.back(t, 0)
	m.decide(t, 1)
	m.propagate(t)
	if m.watcher.Visits() != before {
		t.Errorf("%d visits", m.watcher.Visits())
	}
	m.back(t, 0)
	m.attach(t, []int{2})
	for range 3 {
		m.propagate(t)
	}
	if n := m.watcher.Visits(); n != before+1 {
		t.Errorf("%d visits", n)
	}
}

// P13.1: a clause that was dropped is not examined.
func TestDroppedIsNotVisited(t *testing.T) {
	m := with(t, 3, []int{1, 2, 3}, []int{1})
	m.drop(t, 0)
	m.drop(t, 6)
	m.propagate(t)
	for v := 1; v <= 3; v++ {
		m.decide(t, -v)
		m.propagate(t)
	}
	if n := m.watcher.Visits(); n != 0 {
		t.Errorf("%d visits", n)
	}
}

// A propagator for a trail on which there are literals already.
func TestOldTrail(t *testing.T) {
	m := newModel(4)
	m.trail.Put(1, -1)
	m.watcher = watch.New(m.arena, m.trail, 4)
	m.attach(t, []int{-1, 2})
	m.attach(t, []int{-2, 3, 4})
	m.propagate(t)
	m.want(t, 1, 2)
	m.trail.Decide(-3)
	m.watcher = watch.New(m.arena, m.trail, 4)
	if _, ok := m.watcher.Propagate(); !ok {
		t.Error("there is a clash")
	}
	m.want(t, 1, 2, -3)
}

// Propagators have nothing to do with each other, not even those of one arena.
func TestPropagatorsApart(t *testing.T) {
	a := arena.New(0)
	one, _ := a.Add([]int{1, 2}, false, 0)
	two, _ := a.Add([]int{1, 3}, false, 0)
	x, y := trail.New(3), trail.New(3)
	v, w := watch.New(a, x, 3), watch.New(a, y, 3)
	v.Attach(one)
	w.Attach(two)
	x.Decide(-1)
	y.Decide(-1)
	v.Propagate()
	w.Propagate()
	if x.Value(2) != 1 || x.Value(3) != 0 || y.Value(2) != 0 || y.Value(3) != 1 {
		t.Errorf("the values are %d, %d, %d, %d", x.Value(2), x.Value(3), y.Value(2), y.Value(3))
	}
}

// smallClauses are all clauses of two variables that are no tautologies.
var smallClauses = [][]int{{}, {1}, {-1}, {2}, {-2}, {1, 2}, {1, -2}, {-1, 2}, {-1, -2}}

// P13.2: all sets of clauses of two variables, with all decisions, before and after which the clauses are propagated or not.
func TestSmallFormulas(t *testing.T) {
	for set := range 1 << len(smallClauses) {
		for number := range 4 * 4 * 2 {
			m := newModel(2)
			for i, c := range smallClauses {
				if set>>i&1 == 1 {
					m.attach(t, c)
				}
			}
			if _, ok := m.propagate(t); !ok {
				continue
			}
			m.trail.Decide([]int{1, -1, 2, -2}[number%4])
			if number >= 16 {
				m.propagate(t)
			}
			if !m.clashed {
				m.trail.Decide([]int{1, -1, 2, -2}[number/4%4])
			}
			for level := m.trail.Level(); level >= 0; level-- {
				m.propagate(t)
				m.back(t, level-1)
			}
		}
	}
}

// clause returns a clause of different variables.
func (r *recurrence) clause(vars int) []int {
	var out []int
	for range r.below(6) {
		l := r.below(vars) + 1
		if !slices.Contains(out, l) && !slices.Contains(out, -l) {
			out = append(out, l-2*l*r.below(2))
		}
	}
	return out
}

// lesson returns a clause that may be attached above level 0, or nothing.
func (r *recurrence) lesson(m *model) []int {
	var open, last, out []int
	for l := 1; l <= m.vars; l++ {
		switch {
		case m.trail.Value(l) == 0:
			open = append(open, l-2*l*r.below(2))
		case m.trail.LevelOf(l) == m.trail.Level():
			last = append(last, -l*m.trail.Value(l))
		}
	}
	if len(open) == 0 || len(last) == 0 {
		return nil
	}
	out = append(out, open[r.below(len(open))], last[r.below(len(last))])
	for l := 1; l <= m.vars; l++ {
		if x := -l * m.trail.Value(l); x != 0 && !slices.Contains(out, x) && r.below(2) == 0 {
			out = append(out, x)
		}
	}
	return out
}

// attachSome attaches a clause that may be attached.
func attachSome(t *testing.T, r *recurrence, m *model) {
	t.Helper()
	if m.trail.Level() > 0 {
		if c := r.lesson(m); c != nil {
			m.attach(t, c)
		}
		return
	}
	if c := r.clause(m.vars); len(c) > 1 || r.below(12) == 0 {
		m.attach(t, c)
	}
}

// step performs a call on a model, if it is permitted.
func step(t *testing.T, r *recurrence, m *model) {
	t.Helper()
	l := r.below(2*m.vars+1) - m.vars
	switch r.below(14) {
	case 0, 1:
		attachSome(t, r, m)
	case 2, 3, 4, 5:
		m.propagate(t)
	case 6, 7, 8, 9:
		if m.free {
			m.trail.Decide(l)
		}
	case 10:
		if m.free {
			m.trail.Put(l, 1000)
		}
	case 11:
		m.back(t, m.trail.Level()-r.below(4))
	case 12:
		for ref := range m.arena.All() {
			if r.below(5) == 0 && len(m.attached) > m.vars {
				m.drop(t, ref)
			}
		}
	case 13:
		m.compact(t)
	}
}

// Propagators are held against the definitions after each of many calls.
func TestByDefinition(t *testing.T) {
	r := recurrence(13)
	clashes, high := 0, 0
	for n := range 2000 {
		m := newModel(n%9 + 2)
		for range m.vars {
			attachSome(t, &r, m)
		}
		for range 60 {
			step(t, &r, m)
			if m.clashed {
				clashes++
			}
			if m.trail.Level() > 2 {
				high++
			}
		}
		m.propagate(t)
		m.holdArena(t)
	}
	if clashes < 1000 || high < 1000 {
		t.Errorf("%d clashes, and %d times above level 2", clashes, high)
	}
}

// P13.2: a chain of as many variables as there may be, in both directions, and a clause of all of them.
func TestLarge(t *testing.T) {
	a, x := arena.New(0), trail.New(api.MaxVars)
	w := watch.New(a, x, api.MaxVars)
	all := []int{-api.MaxVars}
	for v := 1; v < api.MaxVars; v++ {
		ref, _ := a.Add([]int{-v, v + 1}, false, 0)
		w.Attach(ref)
		all = append(all, -v)
	}
	whole, _ := a.Add(all, false, 0)
	for _, first := range []int{1, -api.MaxVars} {
		if _, ok := w.Propagate(); !ok || x.Len() != 0 {
			t.Fatal("something follows")
		}
		x.Decide(first)
		if _, ok := w.Propagate(); !ok || !x.Full() || x.Level() != 1 {
			t.Fatalf("%d literals follow", x.Len())
		}
		w.Back(0)
	}
	w.Attach(whole)
	w.Propagate()
	x.Decide(1)
	if ref, ok := w.Propagate(); ok || a.Len(ref) < 2 {
		t.Fatalf("%d is no clash", ref)
	}
}

// wrong returns a propagator of clauses as none may be, with one more of each kind of number.
func wrong(vars, trailVars, n int) (*watch.Watcher, *arena.Arena, *trail.Trail) {
	a, x := arena.New(0), trail.New(trailVars)
	w := watch.New(a, x, vars)
	for _, c := range [][]int{{n}, {n, n}, {n, -n, n}, {0}, {0, 1}, {1, 0, 2}, {1, 1}, {1, 1, 1}, {-1, 1}, {2, n, -2, 3}, {-1, -2, -3}, {1, 2, n}, {-2, n, -n, 0}} {
		ref, _ := a.Add(c, false, 0)
		w.Attach(ref)
		w.Attach(ref)
	}
	return w, a, x
}

// P0 for this layer: whatever numbers and clauses are passed, and in whatever order, each call returns.
func TestWrongInputsReturn(t *testing.T) {
	for _, vars := range []int{math.MinInt, -1, 0, 1, 2, 3, 4, 100001, math.MaxInt} {
		for _, n := range append([]int{-4, -2, 1, 2, 3}, extremes...) {
			w, a, x := wrong(vars, n, n)
			for _, l := range []int{-1, 2, n, -3, -n, 3, 1, -2} {
				x.Put(l, n)
				w.Propagate()
				x.Decide(-l)
				w.Propagate()
				w.Attach(l)
				w.Back(l)
			}
			w.Moved(map[int]int{n: -n, 0: 4, 4: n, 9: 9})
			x.Decide(3)
			w.Propagate()
			a.Compact()
			w.Propagate()
			x.Back(0)
			w.Propagate()
			w.Moved(nil)
			if w.Propagate(); w.Visits() < 0 {
				t.Errorf("%d visits", w.Visits())
			}
		}
	}
}
