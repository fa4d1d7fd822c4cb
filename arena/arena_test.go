package arena_test

import (
	"maps"
	"math"
	"slices"
	"testing"

	"bradawl/api"
	"bradawl/arena"
)

// most is the greatest number that a glue or uses can be.
const most = 1<<31 - 1

// extremes are numbers that no call may stumble over.
var extremes = []int{math.MinInt, math.MinInt + 1, -most - 2, -most - 1, -most, -3, -2, -1, most, most + 1, math.MaxInt / 2, math.MaxInt - 3, math.MaxInt - 1, math.MaxInt}

// A recurrence stands in for a random source, so that every run tests the same.
type recurrence uint32

// below returns a number from 0 to n - 1.
func (r *recurrence) below(n int) int {
	*r = *r*1664525 + 1013904223
	return int(*r>>8) % n
}

// A record is a clause as the chapter describes it.
type record struct {
	ref, glue, uses int
	lits            []int
	learned         bool
	dropped         bool
}

// A model is an arena by the chapter's words: its clauses, in order, dropped or not.
type model struct {
	limit   int
	records []record
}

// words returns how many are taken.
func (m *model) words() int {
	n := 0
	for _, x := range m.records {
		n += 3 + len(x.lits)
	}
	return n
}

// clamp returns a number as it counts.
func clamp(n int) int {
	if n < 0 {
		return 0
	}
	if n > most {
		return most
	}
	return n
}

// add is Add.
func (m *model) add(c []int, learned bool, glue int) (int, bool) {
	ref := m.words()
	if m.limit > 0 && ref+3+len(c) > m.limit {
		return 0, false
	}
	m.records = append(m.records, record{ref: ref, glue: clamp(glue), lits: slices.Clone(c), learned: learned})
	return ref, true
}

// at returns the existing clause at ref, or nil.
func (m *model) at(ref int) *record {
	for i := range m.records {
		if m.records[i].ref == ref && !m.records[i].dropped {
			return &m.records[i]
		}
	}
	return nil
}

// refs returns those of the existing clauses.
func (m *model) refs() []int {
	var out []int
	for _, x := range m.records {
		if !x.dropped {
			out = append(out, x.ref)
		}
	}
	return out
}

// compact is Compact.
func (m *model) compact() map[int]int {
	out := map[int]int{}
	m.records = slices.DeleteFunc(m.records, func(x record) bool { return x.dropped })
	n := 0
	for i, x := range m.records {
		out[x.ref] = n
		m.records[i].ref = n
		n += 3 + len(x.lits)
	}
	return out
}

// numbersAgree holds all that an arena tells of one ref against a clause, or against none (nil).
func numbersAgree(t *testing.T, a *arena.Arena, ref int, x *record) {
	t.Helper()
	want := record{}
	if x != nil {
		want = *x
	}
	if a.Has(ref) != (x != nil) || a.Len(ref) != len(want.lits) || !slices.Equal(a.Lits(ref), want.lits) {
		t.Fatalf("ref %d: %v, %d, %v, but not %v", ref, a.Has(ref), a.Len(ref), a.Lits(ref), x)
	}
	if a.Learned(ref) != want.learned || a.Glue(ref) != want.glue || a.Uses(ref) != want.uses {
		t.Fatalf("ref %d: %v, %d, %d, but not %v", ref, a.Learned(ref), a.Glue(ref), a.Uses(ref), x)
	}
	for i := -4; i < len(want.lits)+5; i++ {
		l := 0
		if i >= 0 && i < len(want.lits) {
			l = want.lits[i]
		}
		if got := a.Lit(ref, i); got != l {
			t.Fatalf("Lit(%d, %d) is %d, not %d", ref, i, got, l)
		}
	}
}

// agree holds all that an arena tells against a model.
func agree(t *testing.T, a *arena.Arena, m *model) {
	t.Helper()
	if a.Words() != m.words() || a.Count() != len(m.refs()) {
		t.Fatalf("%d words and %d clauses, not %d and %d", a.Words(), a.Count(), m.words(), len(m.refs()))
	}
	if got := slices.Collect(a.All()); !slices.Equal(got, m.refs()) {
		t.Fatalf("All yields %v, not %v", got, m.refs())
	}
	for ref := -4; ref < m.words()+5; ref++ {
		numbersAgree(t, a, ref, m.at(ref))
	}
	for _, ref := range extremes {
		numbersAgree(t, a, ref, m.at(ref))
	}
}

// three returns an arena with clauses of three, no and two literals, at the refs 0, 6 and 9, and its model.
func three() (*arena.Arena, *model) {
	a, m := arena.New(0), &model{}
	for i, c := range [][]int{{1, -2, 3}, nil, {-4, 5}} {
		a.Add(c, i > 0, 2*i+1)
		m.add(c, i > 0, 2*i+1)
	}
	return a, m
}

func TestNew(t *testing.T) {
	for _, limit := range append([]int{0, 1, 2, 3, 100}, extremes...) {
		agree(t, arena.New(limit), &model{})
	}
}

func TestExample(t *testing.T) {
	a := arena.New(0)
	x, first := a.Add([]int{1, 2}, false, 0)
	y, second := a.Add([]int{-1, 3}, false, 0)
	if x != 0 || y != 5 || !first || !second || a.Words() != 10 {
		t.Errorf("the refs are %d and %d", x, y)
	}
}

func TestAddAndTell(t *testing.T) {
	a, m := three()
	agree(t, a, m)
	if !slices.Equal(m.refs(), []int{0, 6, 9}) || a.Words() != 14 {
		t.Errorf("All yields %v", slices.Collect(a.All()))
	}
}

// An arena has room up to its last word, and not for one more.
func TestLimits(t *testing.T) {
	cases := []struct {
		limit int
		sizes []int
		refs  []int // -1: there is no room
	}{
		{1, []int{0, 1, 9, 0}, []int{-1, -1, -1, -1}},
		{2, []int{0, 1}, []int{-1, -1}},
		{3, []int{1, 0, 0}, []int{-1, 0, -1}},
		{4, []int{2, 1, 0}, []int{-1, 0, -1}},
		{4, []int{0, 0, 1}, []int{0, -1, -1}},
		{5, []int{1, 0}, []int{0, -1}},
		{6, []int{0, 1, 0, 0}, []int{0, -1, 3, -1}},
		{7, []int{0, 1, 0}, []int{0, 3, -1}},
		{7, []int{4, 0}, []int{0, -1}},
		{7, []int{5, 4}, []int{-1, 0}},
		{14, []int{3, 1, 2, 1, 0}, []int{0, 6, -1, 10, -1}},
		{0, []int{0, 9, 2}, []int{0, 3, 15}},
		{-1, []int{0, 9, 2}, []int{0, 3, 15}},
		{-7, []int{3, 3, 3}, []int{0, 6, 12}},
		{math.MinInt, []int{0, 9, 2}, []int{0, 3, 15}},
		{math.MaxInt, []int{0, 9, 2}, []int{0, 3, 15}},
	}
	for _, c := range cases {
		a, m := arena.New(c.limit), &model{limit: c.limit}
		for i, size := range c.sizes {
			lits := slices.Repeat([]int{-8}, size)
			want, room := max(c.refs[i], 0), c.refs[i] >= 0
			if ref, ok := a.Add(lits, true, 3); ref != want || ok != room {
				t.Errorf("limit %d, sizes %v: clause %d is at %d, %v", c.limit, c.sizes, i, ref, ok)
			}
			m.add(lits, true, 3)
			agree(t, a, m)
		}
	}
}

// The words of a dropped clause are taken until Compact.
func TestRoomAfterDropping(t *testing.T) {
	a := arena.New(8)
	a.Add([]int{1}, false, 0)
	a.Add([]int{2}, false, 0)
	a.Drop(0)
	a.Drop(4)
	if ref, ok := a.Add(nil, false, 0); ok || ref != 0 || a.Words() != 8 || a.Count() != 0 {
		t.Errorf("full of dropped ones: %d, %v", ref, ok)
	}
	a.Compact()
	if ref, ok := a.Add([]int{1, 2, 3, 4, 5, 6}, false, 0); ok || ref != 0 || a.Words() != 0 {
		t.Errorf("one word too many: %d, %v", ref, ok)
	}
	if ref, ok := a.Add([]int{1, 2, 3, 4, 5}, false, 0); !ok || ref != 0 || a.Words() != 8 {
		t.Errorf("all words: %d, %v", ref, ok)
	}
	if ref, ok := a.Add(nil, false, 0); ok || ref != 0 || a.Count() != 1 {
		t.Errorf("full again: %d, %v", ref, ok)
	}
}

// Glue and uses lie between 0 and 2^31 - 1.
func TestNumbers(t *testing.T) {
	for _, n := range append([]int{0, 1, 2, 7, most - 1}, extremes...) {
		for _, learned := range []bool{false, true} {
			a := arena.New(0)
			a.Add([]int{4}, false, 5)
			ref, _ := a.Add([]int{1, -2}, learned, n)
			a.Add([]int{4}, false, 5)
			if a.Glue(ref) != clamp(n) || a.Uses(ref) != 0 || a.Learned(ref) != learned {
				t.Errorf("glue %d is %d, uses %d", n, a.Glue(ref), a.Uses(ref))
			}
			if !a.SetGlue(ref, 9) || a.Glue(ref) != 9 || a.Uses(ref) != 0 {
				t.Errorf("glue 9 is %d, uses %d", a.Glue(ref), a.Uses(ref))
			}
			if !a.SetUses(ref, n) || a.Uses(ref) != clamp(n) || a.Glue(ref) != 9 {
				t.Errorf("uses %d are %d, glue %d", n, a.Uses(ref), a.Glue(ref))
			}
			if !a.SetGlue(ref, n) || a.Glue(ref) != clamp(n) || a.Uses(ref) != clamp(n) {
				t.Errorf("glue %d is %d, uses %d", n, a.Glue(ref), a.Uses(ref))
			}
			if a.Learned(ref) != learned || !slices.Equal(a.Lits(ref), []int{1, -2}) {
				t.Errorf("the rest of the clause: %v, %v", a.Learned(ref), a.Lits(ref))
			}
			for _, other := range []int{0, 9} {
				numbersAgree(t, a, other, &record{lits: []int{4}, glue: 5})
			}
		}
	}
}

func TestSwap(t *testing.T) {
	a, m := three()
	cases := []struct {
		ref, i, k int
		ok        bool
	}{
		{0, 0, 2, true}, {0, 2, 1, true}, {0, 1, 1, true}, {9, 1, 0, true}, {9, 0, 0, true},
		{0, 0, 3, false}, {0, 3, 0, false}, {0, 3, 3, false}, {0, -1, 0, false}, {0, 0, -1, false}, {0, -1, -1, false},
		{0, 0, 9, false}, {0, -3, 2, false}, {9, 1, 2, false}, {9, 2, 1, false}, {9, 2, 2, false},
		{6, 0, 0, false}, {6, 0, 1, false}, {6, 3, 4, false}, {6, -1, -1, false},
		{3, 0, 0, false}, {1, 0, 1, false}, {-1, 0, 0, false}, {14, 0, 0, false},
		{0, 0, math.MaxInt, false}, {0, math.MinInt, 0, false}, {math.MaxInt, 0, 0, false}, {math.MinInt, 0, 0, false},
	}
	for _, c := range cases {
		if got := a.Swap(c.ref, c.i, c.k); got != c.ok {
			t.Errorf("Swap(%d, %d, %d) is %v", c.ref, c.i, c.k, got)
		}
		if x := m.at(c.ref); c.ok {
			x.lits[c.i], x.lits[c.k] = x.lits[c.k], x.lits[c.i]
		}
		agree(t, a, m)
	}
}

// Where no clause begins, or a dropped one, there is nothing to change.
func TestNoClause(t *testing.T) {
	a, m := three()
	a.Drop(0)
	m.at(0).dropped = true
	a.Drop(9)
	m.at(9).dropped = true
	refs := slices.Clone(extremes)
	for ref := range 20 {
		refs = append(refs, ref)
	}
	for _, ref := range refs {
		if ref == 6 {
			continue
		}
		numbersAgree(t, a, ref, nil)
		for _, n := range []int{-1, 0, 1, 7} {
			if a.SetGlue(ref, n) || a.SetUses(ref, n) || a.Swap(ref, n, 0) || a.Swap(ref, 0, 0) || a.Drop(ref) {
				t.Errorf("ref %d, number %d", ref, n)
			}
			agree(t, a, m)
		}
	}
}

func TestDrop(t *testing.T) {
	a, m := three()
	a.SetUses(6, 8)
	m.at(6).uses = 8
	for _, ref := range []int{6, 0, 9} {
		if !a.Drop(ref) || a.Drop(ref) || a.Words() != 14 {
			t.Errorf("Drop(%d)", ref)
		}
		m.at(ref).dropped = true
		agree(t, a, m)
	}
	// What comes next does not lie where a dropped one was.
	if ref, ok := a.Add([]int{7}, true, 2); !ok || ref != 14 {
		t.Errorf("the next one is at %d, %v", ref, ok)
	}
	m.add([]int{7}, true, 2)
	agree(t, a, m)
}

// many returns an arena with n clauses, each of one literal and so of four words.
func many(n int) *arena.Arena {
	a := arena.New(0)
	for i := range n {
		a.Add([]int{i + 1}, i%2 == 0, i)
	}
	return a
}

// One that is dropped during the iteration is not yielded after that; the others are.
func TestAllWhileDropping(t *testing.T) {
	cases := []struct {
		name string
		drop map[int][]int // at which ref which ones
		want []int
	}{
		{"none", nil, []int{0, 4, 8, 12, 16}},
		{"itself", map[int][]int{8: {8}}, []int{0, 4, 8, 12, 16}},
		{"each itself", map[int][]int{0: {0}, 4: {4}, 8: {8}, 12: {12}, 16: {16}}, []int{0, 4, 8, 12, 16}},
		{"the one before", map[int][]int{4: {0}, 8: {4}}, []int{0, 4, 8, 12, 16}},
		{"the next", map[int][]int{0: {4}, 8: {12}}, []int{0, 8, 16}},
		{"the last", map[int][]int{12: {16}}, []int{0, 4, 8, 12}},
		{"the others", map[int][]int{0: {4, 8, 12, 16}}, []int{0}},
		{"all", map[int][]int{4: {0, 4, 8, 12, 16}}, []int{0, 4}},
	}
	for _, c := range cases {
		a := many(5)
		var got []int
		for ref := range a.All() {
			got = append(got, ref)
			for _, x := range c.drop[ref] {
				a.Drop(x)
			}
		}
		if !slices.Equal(got, c.want) {
			t.Errorf("%s: All yields %v, not %v", c.name, got, c.want)
		}
	}
}

// Adding a clause at each step does not keep an iteration from ending.
func TestAllWhileAdding(t *testing.T) {
	a := many(5)
	var got, added []int
	for ref := range a.All() {
		if got = append(got, ref); len(got) > 1000 {
			t.Fatal("the iteration does not end")
		}
		x, ok := a.Add([]int{9, 9}, true, 1)
		if !ok {
			t.Fatal("no room")
		}
		added = append(added, x)
	}
	if want := []int{0, 4, 8, 12, 16}; !slices.Equal(got, want) {
		t.Errorf("All yields %v, not %v", got, want)
	}
	if want := slices.Concat(got, added); !slices.Equal(slices.Collect(a.All()), want) || a.Count() != 10 {
		t.Errorf("after that, All yields %v, not %v", slices.Collect(a.All()), want)
	}
}

// Clauses are dropped, added and moved at each step of an iteration: it ends, ascends, and yields only what exists.
func TestAllWhileChanging(t *testing.T) {
	r := recurrence(5)
	for range 2000 {
		a := many(r.below(9))
		before, last, steps := a.Count(), -1, 0
		for ref := range a.All() {
			if !a.Has(ref) || ref <= last {
				t.Fatalf("%d is yielded after %d: %v", ref, last, a.Has(ref))
			}
			last = ref
			if steps++; steps > before {
				t.Fatal("more are yielded than there were")
			}
			switch r.below(5) {
			case 0:
				a.Drop(4 * r.below(9))
			case 1:
				a.Drop(ref)
			case 2:
				a.Add(make([]int, r.below(4)), true, 3)
			case 3:
				a.Compact()
			}
		}
		checkWhole(t, a)
	}
}

// checkWhole holds an arena's numbers against each other.
func checkWhole(t *testing.T, a *arena.Arena) {
	t.Helper()
	n, end := 0, 0
	for ref := range a.All() {
		if !a.Has(ref) || ref < end {
			t.Fatalf("ref %d, where the clause before ends at %d", ref, end)
		}
		n++
		end = ref + 3 + a.Len(ref)
	}
	if n != a.Count() || end > a.Words() {
		t.Fatalf("%d clauses, not %d; the last one ends at %d, of %d words", n, a.Count(), end, a.Words())
	}
}

func TestAllEndedEarly(t *testing.T) {
	a := many(5)
	all := a.All()
	for k := 1; k <= 5; k++ {
		var got []int
		for ref := range all {
			got = append(got, ref)
			if len(got) == k {
				break
			}
		}
		if !slices.Equal(got, []int{0, 4, 8, 12, 16}[:k]) {
			t.Errorf("ended after %d: %v", k, got)
		}
	}
	calls := 0
	all(func(int) bool {
		calls++
		return false
	})
	if calls != 1 {
		t.Errorf("%d more after the end", calls-1)
	}
	a.Drop(0)
	if got := slices.Collect(all); !slices.Equal(got, []int{4, 8, 12, 16}) {
		t.Errorf("once more: %v", got)
	}
}

// Iterations of one arena do not disturb each other.
func TestAllWithinAll(t *testing.T) {
	a := many(3)
	var got []int
	for x := range a.All() {
		for y := range a.All() {
			got = append(got, x+y/4)
		}
	}
	if !slices.Equal(got, []int{0, 1, 2, 4, 5, 6, 8, 9, 10}) {
		t.Errorf("All within All: %v", got)
	}
}

func TestCompactNothing(t *testing.T) {
	for _, a := range []*arena.Arena{arena.New(0), arena.New(3), arena.New(-1)} {
		for range 3 {
			if got := a.Compact(); len(got) != 0 {
				t.Errorf("Compact of nothing: %v", got)
			}
			agree(t, a, &model{})
		}
	}
	a := many(4)
	for ref := range a.All() {
		a.Drop(ref)
	}
	if got := a.Compact(); len(got) != 0 {
		t.Errorf("Compact of dropped ones: %v", got)
	}
	agree(t, a, &model{})
	if ref, ok := a.Add([]int{2}, false, 0); ref != 0 || !ok {
		t.Errorf("the first one after that is at %d, %v", ref, ok)
	}
}

// For each choice of what is dropped, the others keep their order, their literals and their numbers.
func TestCompactEachChoice(t *testing.T) {
	for choice := range 1 << 6 {
		a, m := arena.New(0), &model{}
		for i := range 6 {
			c := []int{10 * i, 3, -3, 0, 7 * i}[:(i*2)%5]
			ref, _ := a.Add(c, i%3 == 0, 100+i)
			m.add(c, i%3 == 0, 100+i)
			a.SetUses(ref, 50-i)
			m.at(ref).uses = 50 - i
		}
		for i := range 6 {
			if choice>>i&1 == 1 {
				a.Drop(m.records[i].ref)
				m.records[i].dropped = true
			}
		}
		if got, want := a.Compact(), m.compact(); !maps.Equal(got, want) {
			t.Errorf("choice %b: Compact is %v, not %v", choice, got, want)
		}
		agree(t, a, m)
		same := map[int]int{}
		for _, ref := range m.refs() {
			same[ref] = ref
		}
		if got := a.Compact(); !maps.Equal(got, same) {
			t.Errorf("choice %b: a second Compact is %v, not %v", choice, got, same)
		}
		agree(t, a, m)
	}
}

// What Compact returns belongs to the caller.
func TestCompactBelongs(t *testing.T) {
	a, m := three()
	a.Drop(0)
	m.at(0).dropped = true
	got, want := a.Compact(), m.compact()
	agree(t, a, m)
	clear(got)
	got[0], got[77] = 5, 5
	agree(t, a, m)
	got[3] = 3
	a.Add([]int{1}, false, 0)
	m.add([]int{1}, false, 0)
	a.Compact()
	agree(t, a, m)
	if !maps.Equal(got, map[int]int{0: 5, 3: 3, 77: 5}) || !maps.Equal(want, map[int]int{6: 0, 9: 3}) {
		t.Errorf("the caller's map is %v", got)
	}
}

// Add copies the literals, and Lits does so, too: neither shares memory with the arena, not even behind the end.
func TestBelongs(t *testing.T) {
	mine := []int{1, -2, 3, 99, 98}
	a, m := arena.New(0), &model{}
	for range 3 {
		a.Add(mine[:3], true, 1)
		m.add([]int{1, -2, 3}, true, 1)
	}
	a.Add(nil, false, 0)
	m.add(nil, false, 0)
	a.Add([]int{5}, false, 0)
	m.add([]int{5}, false, 0)
	if !slices.Equal(mine, []int{1, -2, 3, 99, 98}) {
		t.Fatalf("the argument became %v", mine)
	}
	for i := range mine {
		mine[i] = 55
	}
	agree(t, a, m)
	for _, ref := range []int{0, 6, 12, 18, 21, 1, -1, 25} {
		got := a.Lits(ref)
		_ = append(got, 7777, 7777, 7777, 7777)
		got = got[:cap(got)]
		for i := range got {
			got[i] = 7777
		}
		agree(t, a, m)
	}
	// The other way round: a slice that was returned does not change with the arena.
	got := a.Lits(0)
	a.Swap(0, 0, 1)
	a.Drop(0)
	a.Compact()
	if !slices.Equal(got, []int{1, -2, 3}) {
		t.Errorf("the caller's literals became %v", got)
	}
}

// Arenas have nothing to do with each other.
func TestArenasApart(t *testing.T) {
	a, m := three()
	b, n := three()
	a.Add([]int{6}, true, 4)
	m.add([]int{6}, true, 4)
	b.Drop(6)
	n.at(6).dropped = true
	b.Swap(9, 0, 1)
	slices.Reverse(n.at(9).lits)
	agree(t, a, m)
	agree(t, b, n)
	b.Compact()
	n.compact()
	agree(t, a, m)
	agree(t, b, n)
}

// Literals may be any numbers, also ones that look like the beginning of a clause.
func TestAnyLiterals(t *testing.T) {
	a, m := arena.New(0), &model{}
	for _, c := range [][]int{extremes, {0, 0, 0, 0, 0, 0}, {2, 0, 0, 1}, nil, {1, 1, 1, 4, 2, 2}, {-1, -6, -7}, extremes} {
		a.Add(c, len(c)%2 == 0, len(c))
		m.add(c, len(c)%2 == 0, len(c))
	}
	agree(t, a, m)
	second := m.refs()[1]
	a.Drop(second)
	m.at(second).dropped = true
	agree(t, a, m)
	a.Compact()
	m.compact()
	agree(t, a, m)
}

// step performs a call that changes, on an arena and its model, and holds its results against each other.
func step(t *testing.T, r *recurrence, a *arena.Arena, m *model) {
	t.Helper()
	ref := r.below(m.words()+8) - 4
	if refs := m.refs(); len(refs) > 0 && r.below(4) > 0 {
		ref = refs[r.below(len(refs))]
	}
	x, n := m.at(ref), r.below(12)-2
	if r.below(6) == 0 {
		n = extremes[r.below(len(extremes))]
	}
	switch r.below(9) {
	case 0, 1, 2:
		c := make([]int, r.below(6))
		for i := range c {
			c[i] = r.below(21) - 10
		}
		learned := r.below(2) == 1
		got, ok := a.Add(c, learned, n)
		if want, room := m.add(c, learned, n); got != want || ok != room {
			t.Fatalf("Add is %d, %v, not %d, %v", got, ok, want, room)
		}
	case 3, 4:
		i, k := r.below(8)-2, r.below(8)-2
		ok := x != nil && min(i, k) >= 0 && max(i, k) < len(x.lits)
		if ok {
			x.lits[i], x.lits[k] = x.lits[k], x.lits[i]
		}
		if got := a.Swap(ref, i, k); got != ok {
			t.Fatalf("Swap(%d, %d, %d) is %v", ref, i, k, got)
		}
	case 5:
		if x != nil {
			x.glue = clamp(n)
		}
		if got := a.SetGlue(ref, n); got != (x != nil) {
			t.Fatalf("SetGlue(%d, %d) is %v", ref, n, got)
		}
	case 6:
		if x != nil {
			x.uses = clamp(n)
		}
		if got := a.SetUses(ref, n); got != (x != nil) {
			t.Fatalf("SetUses(%d, %d) is %v", ref, n, got)
		}
	case 7:
		if x != nil {
			x.dropped = true
		}
		if got := a.Drop(ref); got != (x != nil) {
			t.Fatalf("Drop(%d) is %v", ref, got)
		}
	case 8:
		if r.below(3) > 0 {
			break
		}
		if got, want := a.Compact(), m.compact(); !maps.Equal(got, want) {
			t.Fatalf("Compact is %v, not %v", got, want)
		}
	}
}

// Arenas of all kinds of limits are held against the definitions after each of many calls.
func TestByDefinition(t *testing.T) {
	r := recurrence(3)
	full := 0
	for n := range 400 {
		m := &model{limit: r.below(60) - 3}
		a := arena.New(m.limit)
		if n%4 == 0 {
			m.limit = 0
			a = arena.New(-n)
		}
		for range 60 {
			step(t, &r, a, m)
			agree(t, a, m)
		}
		if m.limit > 0 && m.words() >= m.limit-2 {
			full++
		}
	}
	if full < 50 {
		t.Errorf("only %d arenas were full", full)
	}
}

// As many clauses and literals as a formula may have, and a clause of all of them.
func TestLarge(t *testing.T) {
	a := arena.New(3*api.MaxClauses + api.MaxLits)
	c := []int{1, -2, 3, -4, 5}
	for i := range api.MaxClauses {
		if ref, ok := a.Add(c, false, i); !ok || ref != 8*i {
			t.Fatalf("clause %d is at %d, %v", i, ref, ok)
		}
	}
	if _, ok := a.Add(nil, false, 0); ok || a.Count() != api.MaxClauses || a.Words() != 8*api.MaxClauses {
		t.Error("there is more room than permitted")
	}
	for ref := range a.All() {
		if ref%16 == 0 {
			a.Drop(ref)
		}
	}
	moved := a.Compact()
	if len(moved) != api.MaxClauses/2 || a.Words() != 4*api.MaxClauses {
		t.Errorf("%d clauses, %d words", len(moved), a.Words())
	}
	for from, to := range moved {
		if from%16 != 8 || to != (from-8)/2 || a.Glue(to) != from/8 || !slices.Equal(a.Lits(to), c) {
			t.Fatalf("%d became %d: glue %d, %v", from, to, a.Glue(to), a.Lits(to))
		}
	}
	long := slices.Repeat([]int{-9}, api.MaxLits)
	b := arena.New(api.MaxLits + 3)
	if ref, ok := b.Add(long, true, most); !ok || ref != 0 || b.Len(0) != api.MaxLits || b.Lit(0, api.MaxLits-1) != -9 || !b.Learned(0) {
		t.Errorf("a clause of all literals is at %d, %v", ref, ok)
	}
}

// P0 for this layer: whatever is passed, in an arena that is empty, ordinary, full, or has only dropped clauses, each call returns.
func TestWrongInputsReturn(t *testing.T) {
	numbers := append([]int{0, 1, 2, 3, 6, 9, 14, 15}, extremes...)
	ordinary, _ := three()
	gone, _ := three()
	for _, ref := range []int{0, 6, 9} {
		gone.Drop(ref)
	}
	full := arena.New(3)
	full.Add(nil, true, 1)
	for _, a := range []*arena.Arena{arena.New(0), ordinary, full, gone} {
		for _, ref := range numbers {
			for _, i := range numbers {
				for _, k := range numbers {
					a.Swap(ref, i, k)
				}
				a.Lit(ref, i)
				a.SetGlue(ref, i)
				a.SetUses(ref, i)
			}
			a.Add(numbers, ref%2 == 0, ref)
			checkWhole(t, a)
		}
		for _, ref := range numbers {
			a.Drop(ref)
			checkWhole(t, a)
		}
		a.Compact()
		checkWhole(t, a)
	}
}
