package vmtf_test

import (
	"math"
	"slices"
	"testing"

	"bradawl/vmtf"
)

// maxVars is how many variables there may be.
const maxVars = 100000

// extremes are numbers that are no variables of any queue, or of the largest one alone.
var extremes = []int{
	math.MinInt, math.MinInt + 1, math.MinInt32, -1 << 32, -100001, -100000, -99999,
	99999, 100000, 100001, 200000, math.MaxInt32, 1 << 32, 1<<32 + 1, math.MaxInt - 1, math.MaxInt,
}

// A recurrence stands in for a random source, so that every run tests the same.
type recurrence uint32

// below returns a number from 0 to n - 1.
func (r *recurrence) below(n int) int {
	*r = *r*1664525 + 1013904223
	return int(*r>>8) % n
}

// A model is a queue by the chapter's words: the sequence itself, and all bumps of variables that there were.
type model struct {
	sequence []int
	bumps    []int
}

// upTo returns the numbers from 1 to n.
func upTo(n int) []int {
	list := make([]int, n)
	for i := range list {
		list[i] = i + 1
	}
	return list
}

// both returns a queue and its model.
func both(vars int) (*vmtf.Queue, *model) {
	return vmtf.New(vars), &model{sequence: upTo(vars)}
}

// bump is Bump.
func (m *model) bump(v int) bool {
	at := slices.Index(m.sequence, v)
	if at < 0 {
		return false
	}
	m.sequence = slices.Insert(slices.Delete(m.sequence, at, at+1), 0, v)
	m.bumps = append(m.bumps, v)
	return true
}

// front is Front.
func (m *model) front() (int, bool) {
	if len(m.sequence) == 0 {
		return 0, false
	}
	return m.sequence[0], true
}

// stamp is Stamp.
func (m *model) stamp(v int) int {
	for i, b := range slices.Backward(m.bumps) {
		if b == v {
			return i + 1
		}
	}
	return 0
}

// bump performs Bump on both.
func bump(t *testing.T, q *vmtf.Queue, m *model, v int) {
	t.Helper()
	if want := m.bump(v); q.Bump(v) != want {
		t.Fatalf("Bump(%d) is not %v", v, want)
	}
}

// first returns the first ones that All yields, and ends the iteration after that many.
func first(q *vmtf.Queue, n int) []int {
	var got []int
	if n == 0 {
		return got
	}
	for v := range q.All() {
		got = append(got, v)
		if len(got) == n {
			break
		}
	}
	return got
}

// findAgrees holds a search for the variable at a place of the sequence, or for none behind its end, against the model.
func findAgrees(t *testing.T, q *vmtf.Queue, m *model, place int) {
	t.Helper()
	var asked []int
	v, ok := q.Find(func(v int) bool {
		asked = append(asked, v)
		return len(asked) <= place
	})
	want, there := 0, place < len(m.sequence)
	if there {
		want = m.sequence[place]
	}
	if v != want || ok != there {
		t.Fatalf("Find at %d is %d, %v, not %d, %v", place, v, ok, want, there)
	}
	if list := m.sequence[:min(place+1, len(m.sequence))]; !slices.Equal(asked, list) {
		t.Fatalf("skip is called for %v, not for %v", asked, list)
	}
}

// agree holds all that is said of a queue against the model.
func agree(t *testing.T, q *vmtf.Queue, m *model) {
	t.Helper()
	if got := slices.Collect(q.All()); !slices.Equal(got, m.sequence) {
		t.Fatalf("the sequence is %v, not %v", got, m.sequence)
	}
	v, ok := q.Front()
	if want, there := m.front(); v != want || ok != there {
		t.Fatalf("Front is %d, %v, not %d, %v", v, ok, want, there)
	}
	for v := -2; v <= len(m.sequence)+2; v++ {
		if got, want := q.Stamp(v), m.stamp(v); got != want {
			t.Fatalf("Stamp(%d) is %d, not %d", v, got, want)
		}
	}
	for place := range len(m.sequence) + 1 {
		findAgrees(t, q, m, place)
	}
}

// wantSequence holds a sequence against what is said.
func wantSequence(t *testing.T, q *vmtf.Queue, want ...int) {
	t.Helper()
	if got := slices.Collect(q.All()); !slices.Equal(got, want) {
		t.Errorf("the sequence is %v, not %v", got, want)
	}
}

// wantStamps holds the stamps of the variables from 1 on against what is said.
func wantStamps(t *testing.T, q *vmtf.Queue, want ...int) {
	t.Helper()
	for i, s := range want {
		if q.Stamp(i+1) != s {
			t.Errorf("the stamp of %d is %d, not %d", i+1, q.Stamp(i+1), s)
		}
	}
}

func TestExample(t *testing.T) {
	q := vmtf.New(3)
	q.Bump(2)
	wantSequence(t, q, 2, 1, 3)
}

// P17.1: in a new queue 1 is at the front and the greatest variable last, and none was ever moved.
func TestNew(t *testing.T) {
	for n := range 40 {
		q, m := both(n)
		agree(t, q, m)
		wantSequence(t, q, upTo(n)...)
		wantStamps(t, q, make([]int, n)...)
	}
}

// P17.1: without variables there is no first one, none is found, and none can be moved.
func TestNone(t *testing.T) {
	q, m := both(0)
	for v := -2; v <= 2; v++ {
		bump(t, q, m, v)
		agree(t, q, m)
	}
	wantSequence(t, q)
	if v, ok := q.Front(); v != 0 || ok {
		t.Errorf("Front is %d, %v", v, ok)
	}
	if v, ok := q.Find(func(int) bool { return false }); v != 0 || ok {
		t.Errorf("Find is %d, %v", v, ok)
	}
}

// P17.1: with one variable alone, that one stays at the front.
func TestOne(t *testing.T) {
	q, m := both(1)
	for range 5 {
		bump(t, q, m, 1)
		bump(t, q, m, 2)
		agree(t, q, m)
	}
	wantSequence(t, q, 1)
	wantStamps(t, q, 5)
}

// P17.1: what is moved is at the front, whether it was there, last or between, and the others keep their order.
func TestBump(t *testing.T) {
	q := vmtf.New(5)
	for _, c := range []struct {
		v    int
		want []int
	}{
		{1, []int{1, 2, 3, 4, 5}},
		{5, []int{5, 1, 2, 3, 4}},
		{5, []int{5, 1, 2, 3, 4}},
		{2, []int{2, 5, 1, 3, 4}},
		{4, []int{4, 2, 5, 1, 3}},
		{2, []int{2, 4, 5, 1, 3}},
		{3, []int{3, 2, 4, 5, 1}},
	} {
		if !q.Bump(c.v) {
			t.Errorf("Bump(%d) is false", c.v)
		}
		wantSequence(t, q, c.want...)
		if v, ok := q.Front(); v != c.v || !ok {
			t.Errorf("Front is %d, %v", v, ok)
		}
	}
	wantStamps(t, q, 1, 6, 7, 5, 3)
}

// P17.1: a stamp counts the bumps of all variables, also of the one at the front, and is that of the last time.
func TestStamp(t *testing.T) {
	q := vmtf.New(3)
	wantStamps(t, q, 0, 0, 0)
	q.Bump(1)
	wantStamps(t, q, 1, 0, 0)
	q.Bump(3)
	q.Bump(3)
	q.Bump(3)
	wantStamps(t, q, 1, 0, 4)
	q.Bump(1)
	wantStamps(t, q, 5, 0, 4)
}

// P17.1: what is not a variable is not moved, has no stamp, and does not count as a bump.
func TestNoVariables(t *testing.T) {
	q, m := both(5)
	bump(t, q, m, 4)
	for _, v := range append([]int{-6, -5, -4, -1, 0, 6, 7}, extremes...) {
		if q.Bump(v) || q.Stamp(v) != 0 {
			t.Errorf("%d is a variable", v)
		}
		agree(t, q, m)
	}
	q.Bump(2)
	wantStamps(t, q, 0, 2, 0, 1, 0)
	wantSequence(t, q, 2, 4, 1, 3, 5)
}

// P17.1: an iteration may be ended at any time, and begun again, by the same function too.
func TestIterationsEnd(t *testing.T) {
	q, m := both(6)
	bump(t, q, m, 3)
	bump(t, q, m, 6)
	for n := range 7 {
		if got := first(q, n); !slices.Equal(got, m.sequence[:n]) {
			t.Errorf("the first %d are %v", n, got)
		}
	}
	all := q.All()
	for range 3 {
		if got := slices.Collect(all); !slices.Equal(got, m.sequence) {
			t.Errorf("the sequence is %v", got)
		}
	}
	agree(t, q, m)
}

// P17.1: iterations do not disturb each other, nor does a search or a question within one.
func TestIterationsWithin(t *testing.T) {
	q, m := both(5)
	bump(t, q, m, 4)
	var got []int
	for v := range q.All() {
		got = append(got, v)
		agree(t, q, m)
	}
	if !slices.Equal(got, []int{4, 1, 2, 3, 5}) {
		t.Errorf("the sequence is %v", got)
	}
}

// P17.1: Find goes by what skip says of each variable, for each set of those that are skipped.
func TestFindByVariable(t *testing.T) {
	q := vmtf.New(6)
	for _, v := range []int{2, 6, 5, 2} {
		q.Bump(v)
	}
	sequence := []int{2, 5, 6, 1, 3, 4}
	for set := range 1 << 6 {
		skip := func(v int) bool { return set>>(v-1)&1 == 1 }
		at := slices.IndexFunc(sequence, func(v int) bool { return !skip(v) })
		v, ok := q.Find(skip)
		if at < 0 && (v != 0 || ok) {
			t.Errorf("of none Find is %d, %v", v, ok)
		}
		if at >= 0 && (v != sequence[at] || !ok) {
			t.Errorf("of %b Find is %d, %v", set, v, ok)
		}
	}
	wantSequence(t, q, sequence...)
	wantStamps(t, q, 0, 4, 0, 0, 3, 2)
}

// P17.1: Front, All, Find and Stamp change nothing, however often they are called.
func TestAsking(t *testing.T) {
	q, m := both(4)
	bump(t, q, m, 3)
	for range 10 {
		agree(t, q, m)
	}
	bump(t, q, m, 2)
	agree(t, q, m)
	wantStamps(t, q, 0, 2, 1, 0)
}

// P17.1: all sequences of up to five bumps on queues of up to four variables.
func TestAllSmall(t *testing.T) {
	for vars := range 5 {
		for n := range 6 * 6 * 6 * 6 * 6 {
			q, m := both(vars)
			for rest := n; rest > 0; rest /= 6 {
				bump(t, q, m, rest%6)
			}
			agree(t, q, m)
		}
	}
}

// variable returns a number that is most often a variable.
func (r *recurrence) variable(vars int) int {
	if r.below(40) == 0 {
		return extremes[r.below(len(extremes))]
	}
	return r.below(vars+2) - r.below(2)
}

// P17.1: queues are held against the definitions after each of many bumps.
func TestByDefinition(t *testing.T) {
	r := recurrence(17)
	for n := range 300 {
		q, m := both(n % 29)
		for range 60 {
			bump(t, q, m, r.variable(len(m.sequence)))
			agree(t, q, m)
		}
	}
}

// Queues have nothing to do with each other.
func TestQueuesApart(t *testing.T) {
	q, m := both(4)
	other, others := both(4)
	for i := range 40 {
		bump(t, q, m, i*i%5)
		agree(t, other, others)
	}
	bump(t, other, others, 2)
	agree(t, other, others)
	agree(t, q, m)
}

// P17.1: as many variables as there may be: those that were moved, the last one first, and then the others in their order.
func TestLarge(t *testing.T) {
	q := vmtf.New(maxVars)
	if q.Bump(maxVars+1) || q.Stamp(maxVars+1) != 0 {
		t.Fatalf("%d is a variable", maxVars+1)
	}
	wantLarge(t, q, upTo(maxVars))
	r := recurrence(18)
	stamps := make([]int, maxVars+1)
	for n := range 3 * maxVars / 2 {
		v := 1 + r.below(maxVars)
		if n == 0 {
			v = maxVars
		}
		if !q.Bump(v) {
			t.Fatalf("Bump(%d) is false", v)
		}
		stamps[v] = n + 1
	}
	want := upTo(maxVars)
	slices.SortStableFunc(want, func(v, w int) int { return stamps[w] - stamps[v] })
	wantLarge(t, q, want)
	for v, s := range stamps {
		if q.Stamp(v) != s {
			t.Fatalf("the stamp of %d is %d, not %d", v, q.Stamp(v), s)
		}
	}
}

// wantLarge holds a long sequence against what is said.
func wantLarge(t *testing.T, q *vmtf.Queue, want []int) {
	t.Helper()
	if got := slices.Collect(q.All()); !slices.Equal(got, want) {
		t.Fatal("the sequence is another one")
	}
	last := want[len(want)-1]
	if v, ok := q.Find(func(v int) bool { return v != last }); v != last || !ok {
		t.Fatalf("Find is %d, %v, not %d", v, ok, last)
	}
	if v, ok := q.Find(func(int) bool { return true }); v != 0 || ok {
		t.Fatalf("Find of none is %d, %v", v, ok)
	}
}

// P0 for this layer: whatever numbers are passed, each call returns, also on queues of numbers that no queue may have.
func TestWrongInputsReturn(t *testing.T) {
	for _, vars := range append([]int{-3, -1, 0, 1, 2}, extremes...) {
		q := vmtf.New(vars)
		if q == nil {
			t.Fatalf("New(%d) is nil", vars)
		}
		for _, v := range append([]int{-2, -1, 0, 1, 2}, extremes...) {
			q.Bump(v)
			q.Stamp(v)
			q.Front()
			first(q, 3)
			q.Find(func(w int) bool { return w != v })
			q.Find(nil)
		}
	}
}

// P0 for this layer: an iteration ends, and a search, even if variables are moved meanwhile; what is yielded are variables.
func TestMovedMeanwhile(t *testing.T) {
	for vars := range 6 {
		for by := range 4 {
			q := vmtf.New(vars)
			move := func(v int) bool {
				if v < 1 || v > vars {
					t.Fatalf("%d is yielded", v)
				}
				return q.Bump((v+by-1)%vars + 1)
			}
			for v := range q.All() {
				move(v)
			}
			q.Find(move)
			if got := slices.Sorted(q.All()); !slices.Equal(got, upTo(vars)) {
				t.Errorf("the variables are %v", got)
			}
		}
	}
}
