package scores_test

import (
	"cmp"
	"math"
	"math/big"
	"slices"
	"testing"

	"bradawl/scores"
)

// most is what no score and no rise may be greater than, and maxVars how many variables there may be.
const (
	most    = 1 << 50
	maxVars = 100000
)

// extremes are numbers that are no variables of any heap, or of the largest one alone.
var extremes = []int{
	math.MinInt, math.MinInt + 1, math.MinInt32, -1 << 32, -100001, -100000, -99999,
	99999, 100000, 100001, 200000, math.MaxInt32, 1 << 32, 1<<32 + 1, math.MaxInt - 1, math.MaxInt,
}

// A recurrence stands in for a random source, so that every run tests the same.
type recurrence uint32

// below returns a number from 0 to n - 1.
func (r *recurrence) below(n int) int {
	*r = *r*1664525 + 1013904223
	return int(*r>>8) % n
}

// A model is a heap by the chapter's words, in numbers without a bound.
type model struct {
	scores []*big.Int // that of the variable v at v - 1
	in     []bool
	rise   *big.Int
}

// newModel is New.
func newModel(vars int) *model {
	m := &model{rise: big.NewInt(1048576)}
	for range vars {
		m.scores = append(m.scores, new(big.Int))
		m.in = append(m.in, true)
	}
	return m
}

// both returns a heap and its model.
func both(vars int) (*scores.Heap, *model) {
	return scores.New(vars), newModel(vars)
}

// isVariable reports whether v is one.
func (m *model) isVariable(v int) bool {
	return 1 <= v && v <= len(m.scores)
}

// divideAbove divides all by 2^30, if x is greater than 2^50, and reports whether it was.
func (m *model) divideAbove(x *big.Int) bool {
	if x.Cmp(big.NewInt(1125899906842624)) <= 0 {
		return false
	}
	by := big.NewInt(1073741824)
	for _, s := range m.scores {
		s.Div(s, by)
	}
	m.rise.Div(m.rise, by)
	if m.rise.Sign() == 0 {
		m.rise.SetInt64(1)
	}
	return true
}

// bump is Bump, and reports also whether all were divided.
func (m *model) bump(v int) (ok, divided bool) {
	if !m.isVariable(v) {
		return false, false
	}
	s := m.scores[v-1]
	s.Add(s, m.rise)
	return true, m.divideAbove(s)
}

// decay is Decay, and reports whether all were divided.
func (m *model) decay() bool {
	m.rise.Mul(m.rise, big.NewInt(16))
	m.rise.Div(m.rise, big.NewInt(15))
	m.rise.Add(m.rise, big.NewInt(1))
	return m.divideAbove(m.rise)
}

// score is Score.
func (m *model) score(v int) int {
	if !m.isVariable(v) {
		return 0
	}
	return int(m.scores[v-1].Int64())
}

// first is First.
func (m *model) first() (int, bool) {
	first := 0
	for v := 1; v <= len(m.scores); v++ {
		if m.in[v-1] && (first == 0 || m.scores[v-1].Cmp(m.scores[first-1]) > 0) {
			first = v
		}
	}
	return first, first != 0
}

// take is Take.
func (m *model) take() (int, bool) {
	v, ok := m.first()
	if ok {
		m.in[v-1] = false
	}
	return v, ok
}

// isIn is In.
func (m *model) isIn(v int) bool {
	return m.isVariable(v) && m.in[v-1]
}

// put is Put.
func (m *model) put(v int) bool {
	if !m.isVariable(v) || m.in[v-1] {
		return false
	}
	m.in[v-1] = true
	return true
}

// len is Len.
func (m *model) len() int {
	count := 0
	for _, in := range m.in {
		if in {
			count++
		}
	}
	return count
}

// numberAgrees holds what is said of a number against the model.
func numberAgrees(t *testing.T, h *scores.Heap, m *model, v int) {
	t.Helper()
	if got, want := h.Score(v), m.score(v); got != want || got > most {
		t.Fatalf("Score(%d) is %d, not %d", v, got, want)
	}
	if got, want := h.In(v), m.isIn(v); got != want {
		t.Fatalf("In(%d) is %v", v, got)
	}
}

// wholeAgrees holds what is said of no variable against the model.
func wholeAgrees(t *testing.T, h *scores.Heap, m *model) {
	t.Helper()
	if got, want := h.Rise(), int(m.rise.Int64()); got != want || got < 1 || got > most {
		t.Fatalf("Rise is %d, not %d", got, want)
	}
	if got, want := h.Len(), m.len(); got != want {
		t.Fatalf("Len is %d, not %d", got, want)
	}
	v, ok := h.First()
	if want, there := m.first(); v != want || ok != there {
		t.Fatalf("First is %d, %v, not %d, %v", v, ok, want, there)
	}
}

// agree holds all that is said of a heap against the model.
func agree(t *testing.T, h *scores.Heap, m *model) {
	t.Helper()
	wholeAgrees(t, h, m)
	for v := -2; v <= len(m.scores)+2; v++ {
		numberAgrees(t, h, m, v)
	}
}

// bump performs Bump on both, and reports whether all were divided.
func bump(t *testing.T, h *scores.Heap, m *model, v int) bool {
	t.Helper()
	ok, divided := m.bump(v)
	if h.Bump(v) != ok {
		t.Fatalf("Bump(%d) is not %v", v, ok)
	}
	return divided
}

// decay performs Decay on both, and reports whether all were divided.
func decay(h *scores.Heap, m *model) bool {
	h.Decay()
	return m.decay()
}

// take performs Take on both.
func take(t *testing.T, h *scores.Heap, m *model) {
	t.Helper()
	v, ok := h.Take()
	if want, there := m.take(); v != want || ok != there {
		t.Fatalf("Take is %d, %v, not %d, %v", v, ok, want, there)
	}
}

// put performs Put on both.
func put(t *testing.T, h *scores.Heap, m *model, v int) {
	t.Helper()
	if want := m.put(v); h.Put(v) != want {
		t.Fatalf("Put(%d) is not %v", v, want)
	}
}

// drain takes all variables, and returns them.
func drain(t *testing.T, h *scores.Heap) []int {
	t.Helper()
	var taken []int
	for h.Len() > 0 {
		first, _ := h.First()
		v, ok := h.Take()
		if !ok || v != first || h.In(v) {
			t.Fatalf("Take is %d, %v, but First %d", v, ok, first)
		}
		taken = append(taken, v)
	}
	return taken
}

// wantTaken drains a heap, and holds the order against what is said.
func wantTaken(t *testing.T, h *scores.Heap, want ...int) {
	t.Helper()
	if got := drain(t, h); !slices.Equal(got, want) {
		t.Errorf("taken are %v, not %v", got, want)
	}
}

// wantScores holds scores, and the rise, against what is said.
func wantScores(t *testing.T, h *scores.Heap, rise int, want ...int) {
	t.Helper()
	if h.Rise() != rise {
		t.Errorf("the rise is %d, not %d", h.Rise(), rise)
	}
	for i, s := range want {
		if h.Score(i+1) != s {
			t.Errorf("the score of %d is %d, not %d", i+1, h.Score(i+1), s)
		}
	}
}

// decays performs that many Decays.
func decays(h *scores.Heap, n int) {
	for range n {
		h.Decay()
	}
}

func TestExample(t *testing.T) {
	h := scores.New(5)
	h.Bump(3)
	if v, ok := h.First(); v != 3 || !ok {
		t.Errorf("First is %d, %v", v, ok)
	}
}

// P16.1: a new heap has all variables, each with a score of 0, and the least one first.
func TestNew(t *testing.T) {
	for n := range 40 {
		h, m := both(n)
		agree(t, h, m)
		wantScores(t, h, 1<<20, make([]int, n)...)
		for v := 1; v <= n; v++ {
			if got, ok := h.Take(); got != v || !ok {
				t.Fatalf("of %d variables %d is taken, not %d", n, got, v)
			}
		}
	}
}

// P16.1: without variables there is no first one, and nothing can be bumped or put.
func TestNone(t *testing.T) {
	h, m := both(0)
	for v := -2; v <= 2; v++ {
		bump(t, h, m, v)
		put(t, h, m, v)
		take(t, h, m)
		agree(t, h, m)
	}
}

// P16.1: bumps add the rise, and what is bumped more comes first.
func TestBump(t *testing.T) {
	h := scores.New(4)
	for _, v := range []int{2, 4, 2, 3, 2, 3} {
		if !h.Bump(v) {
			t.Fatalf("Bump(%d) is false", v)
		}
	}
	wantScores(t, h, 1<<20, 0, 3<<20, 2<<20, 1<<20)
	wantTaken(t, h, 2, 3, 4, 1)
	wantScores(t, h, 1<<20, 0, 3<<20, 2<<20, 1<<20)
}

// P16.1: of several with the greatest score, the least variable is the first one.
func TestTies(t *testing.T) {
	for first := 1; first <= 6; first++ {
		for second := 1; second <= 6; second++ {
			h := scores.New(6)
			h.Bump(first)
			h.Bump(second)
			want := []int{min(first, second)}
			if first != second {
				want = append(want, max(first, second))
			}
			for v := 1; v <= 6; v++ {
				if v != first && v != second {
					want = append(want, v)
				}
			}
			wantTaken(t, h, want...)
		}
	}
}

// P16.1: one that is taken is not in the heap any more, but is bumped all the same.
func TestBumpOutside(t *testing.T) {
	h, m := both(3)
	take(t, h, m)
	bump(t, h, m, 1)
	bump(t, h, m, 1)
	bump(t, h, m, 3)
	agree(t, h, m)
	if v, _ := h.First(); v != 3 || h.In(1) || h.Len() != 2 || h.Score(1) != 2<<20 {
		t.Fatalf("First is %d, and the score of 1 is %d", v, h.Score(1))
	}
	put(t, h, m, 1)
	agree(t, h, m)
	wantTaken(t, h, 1, 3, 2)
}

// P16.1: Put adds one with its score, once.
func TestPut(t *testing.T) {
	h, m := both(4)
	for _, v := range []int{1, 4, 0, -1, 5} {
		put(t, h, m, v)
	}
	bump(t, h, m, 4)
	for range 5 {
		take(t, h, m)
		agree(t, h, m)
	}
	for _, v := range []int{2, 2, 4, 0, -4, 5, 3, 3, 4, 2, 1, 1} {
		put(t, h, m, v)
		agree(t, h, m)
	}
	wantTaken(t, h, 4, 1, 2, 3)
}

// P16.1: what is not a variable is not bumped and not put, has no score, and nothing is changed.
func TestNoVariables(t *testing.T) {
	h, m := both(5)
	take(t, h, m)
	bump(t, h, m, 3)
	for _, v := range append([]int{-6, -5, -3, -1, 0, 6, 7}, extremes...) {
		if h.Bump(v) || h.Put(v) || h.In(v) || h.Score(v) != 0 {
			t.Errorf("%d is a variable", v)
		}
		agree(t, h, m)
	}
}

// P16.1: the rise after each of the first Decays.
func TestDecay(t *testing.T) {
	h := scores.New(2)
	for i, want := range []int{1118482, 1193048, 1272585, 1357425, 1447921, 1544450, 1647414} {
		h.Decay()
		h.Bump(1)
		if h.Rise() != want || h.Score(2) != 0 {
			t.Errorf("after %d Decays the rise is %d, not %d", i+1, h.Rise(), want)
		}
	}
	if h.Score(1) != 1118482+1193048+1272585+1357425+1447921+1544450+1647414 {
		t.Errorf("the score is %d", h.Score(1))
	}
}

// P16.1: a later bump counts more than an earlier one.
func TestLaterBumps(t *testing.T) {
	h := scores.New(3)
	h.Bump(1)
	h.Decay()
	h.Bump(2)
	h.Decay()
	h.Bump(3)
	wantScores(t, h, 1193048, 1<<20, 1118482, 1193048)
	wantTaken(t, h, 3, 2, 1)
}

// riseAfter returns the rise before the Decay that divides, and how many Decays came before that one.
func riseAfter(t *testing.T) (rise, n int) {
	t.Helper()
	rise = 1 << 20
	for 16*rise/15+1 <= most {
		rise, n = 16*rise/15+1, n+1
	}
	if n < 300 || n > 340 {
		t.Fatalf("%d Decays", n)
	}
	return rise, n
}

// P16.1, P16.2: a Decay after which the rise would be greater than 2^50 divides all, also those that are not in the heap.
func TestDecayDivides(t *testing.T) {
	h := scores.New(5)
	rise, n := riseAfter(t)
	h.Bump(5)
	decays(h, n-1)
	h.Bump(4)
	near := h.Rise()
	h.Decay()
	h.Bump(2)
	h.Take()
	wantScores(t, h, rise, 0, rise, 0, near, 1<<20)
	h.Decay()
	wantScores(t, h, (16*rise/15+1)>>30, 0, rise>>30, 0, near>>30, 0)
	if h.In(2) || h.Len() != 4 {
		t.Errorf("%d are in the heap", h.Len())
	}
	h.Put(2)
	wantTaken(t, h, 2, 4, 1, 3, 5)
}

// P16.1, P16.2: a bump after which its score would be greater than 2^50 divides all, and is kept.
func TestBumpDivides(t *testing.T) {
	h := scores.New(4)
	rise, n := riseAfter(t)
	h.Bump(4)
	h.Bump(1)
	decays(h, n)
	h.Bump(3)
	wantScores(t, h, rise, 1<<20, 0, rise, 1<<20)
	h.Bump(3)
	wantScores(t, h, rise>>30, 0, 0, rise>>29, 0)
	h.Bump(2)
	wantScores(t, h, rise>>30, 0, rise>>30, rise>>29, 0)
	wantTaken(t, h, 3, 2, 1, 4)
}

// P16.1: scores that are equal only after they are divided go by their variables, at each place of the heap.
func TestDividedTies(t *testing.T) {
	for vars := 1; vars <= 20; vars++ {
		h, m := both(vars)
		for v := 1; v <= vars; v++ {
			for range v * v % 11 {
				bump(t, h, m, v)
			}
		}
		for !decay(h, m) {
		}
		agree(t, h, m)
		for range vars {
			take(t, h, m)
			agree(t, h, m)
		}
	}
}

// low returns a heap of two variables with the rise 1, of which the second has a score.
func low(t *testing.T) *scores.Heap {
	t.Helper()
	h := scores.New(2)
	for h.Rise() < 1<<29 {
		h.Decay()
	}
	if h.Rise() >= 1<<30 {
		t.Fatalf("the rise is %d", h.Rise())
	}
	// So many that the score exceeds 2^50, for which the rise is too small to be divided.
	bumps := most / h.Rise()
	for range bumps {
		h.Bump(2)
	}
	wantScores(t, h, h.Rise(), 0, h.Rise()*bumps)
	over := h.Rise() * (bumps + 1)
	h.Bump(2)
	wantScores(t, h, 1, 0, over>>30)
	return h
}

// P16.1: the rise is at least 1 after it is divided, and increases from there.
func TestLeastRise(t *testing.T) {
	h := low(t)
	h.Bump(1)
	wantScores(t, h, 1, 1)
	for i, want := range []int{2, 3, 4, 5, 6, 7, 8, 9, 10, 11, 12, 13, 14, 15, 17, 19, 21} {
		h.Decay()
		if h.Rise() != want {
			t.Errorf("after %d Decays the rise is %d, not %d", i+1, h.Rise(), want)
		}
	}
}

// parts returns how often to bump with each rise from 1 on, so that the score becomes that.
func parts(score int) []int {
	rises := []int{1}
	for rises[len(rises)-1] < 1<<49 {
		rises = append(rises, 16*rises[len(rises)-1]/15+1)
	}
	bumps := make([]int, len(rises))
	for i, rise := range slices.Backward(rises) {
		bumps[i] = score / rise
		score %= rise
	}
	return bumps
}

// P16.1, P16.2: a score of 2^50 is not divided, and one of 2^50 + 1 is.
func TestScoresAtTheEdge(t *testing.T) {
	for _, c := range []struct{ goal, want int }{{most - 1, most - 1}, {most, most}, {most + 1, 1 << 20}} {
		h := low(t)
		other := h.Score(2)
		bumps := parts(c.goal)
		last := len(bumps) - 1
		for bumps[last] == 0 {
			last--
		}
		for i, n := range bumps[:last+1] {
			if i > 0 {
				h.Decay()
			}
			for range n {
				h.Bump(1)
			}
		}
		if c.goal > most {
			other = 0
		}
		if h.Score(1) != c.want || h.Score(2) != other {
			t.Errorf("for %d the scores are %d and %d", c.goal, h.Score(1), h.Score(2))
		}
	}
}

// P16.2: however often decays and bumps follow each other, nothing is greater than 2^50, held against the definition.
func TestManyDivisions(t *testing.T) {
	h, m := both(7)
	divided := 0
	for i := range 20000 {
		if decay(h, m) {
			divided++
		}
		if bump(t, h, m, i*i%7+1) {
			divided++
		}
		if i%3 == 0 {
			take(t, h, m)
			put(t, h, m, i%7+1)
		}
		agree(t, h, m)
	}
	if divided < 50 {
		t.Errorf("divided only %d times", divided)
	}
}

// perform performs one of twelve calls on both, and holds the results against each other.
func perform(t *testing.T, h *scores.Heap, m *model, call int) {
	t.Helper()
	switch {
	case call < 5:
		bump(t, h, m, call)
	case call < 10:
		put(t, h, m, call-5)
	case call == 10:
		take(t, h, m)
	default:
		decay(h, m)
	}
}

// P16.1: all sequences of up to four calls on heaps of up to three variables.
func TestAllSmall(t *testing.T) {
	for vars := range 4 {
		for n := range 12 * 12 * 12 * 12 {
			h, m := both(vars)
			for rest := n; rest > 0; rest /= 12 {
				perform(t, h, m, rest%12)
			}
			agree(t, h, m)
		}
	}
}

// variable returns a number that is most often a variable.
func (r *recurrence) variable(vars int) int {
	if r.below(40) == 0 {
		return extremes[r.below(len(extremes))]
	}
	return r.below(vars+2) - r.below(2)
}

// step performs calls on both, most often one, and reports whether all were divided.
func step(t *testing.T, r *recurrence, h *scores.Heap, m *model) bool {
	t.Helper()
	v := r.variable(len(m.scores))
	divided := false
	switch r.below(20) {
	case 0:
		for range r.below(400) {
			divided = decay(h, m) || divided
		}
	case 1, 2:
		divided = decay(h, m)
	case 3, 4, 5, 6:
		take(t, h, m)
	case 7, 8, 9, 10, 11:
		put(t, h, m, v)
	default:
		divided = bump(t, h, m, v)
	}
	return divided
}

// Heaps are held against the definitions after each of many calls.
func TestByDefinition(t *testing.T) {
	r := recurrence(16)
	divided, empty := 0, 0
	for n := range 400 {
		h, m := both(n % 23)
		for range 120 {
			if step(t, &r, h, m) {
				divided++
			}
			if len(m.scores) > 3 && h.Len() == 0 {
				empty++
			}
			agree(t, h, m)
		}
		for h.Len() > 0 {
			take(t, h, m)
		}
		take(t, h, m)
		agree(t, h, m)
	}
	if divided < 400 || empty < 100 {
		t.Errorf("divided only %d times, and empty %d times", divided, empty)
	}
}

// P16.1: First, Len, In, Score and Rise change nothing, however often they are called.
func TestAsking(t *testing.T) {
	h, m := both(6)
	bump(t, h, m, 5)
	take(t, h, m)
	for range 10 {
		agree(t, h, m)
	}
	wantTaken(t, h, 1, 2, 3, 4, 6)
	for range 3 {
		if v, ok := h.Take(); v != 0 || ok {
			t.Errorf("Take is %d, %v of none", v, ok)
		}
		if v, ok := h.First(); v != 0 || ok {
			t.Errorf("First is %d, %v of none", v, ok)
		}
	}
	if !h.Put(6) || h.Len() != 1 {
		t.Errorf("Put of 6, and %d are in", h.Len())
	}
}

// Heaps have nothing to do with each other.
func TestHeapsApart(t *testing.T) {
	h, m := both(4)
	other, others := both(4)
	for i := range 400 {
		decay(h, m)
		bump(t, h, m, i%4+1)
		take(t, h, m)
		agree(t, other, others)
	}
	bump(t, other, others, 2)
	agree(t, other, others)
	agree(t, h, m)
}

// P16.1: as many variables as there may be, in the order of their scores, also after they are divided.
func TestLarge(t *testing.T) {
	h := scores.New(maxVars)
	if h.Len() != maxVars || !h.In(maxVars) || h.In(maxVars+1) || h.Bump(maxVars+1) || h.Put(maxVars+1) {
		t.Fatalf("%d are in", h.Len())
	}
	want := make([]int, maxVars)
	for i := range want {
		want[i] = i + 1
	}
	r := recurrence(17)
	for range 3 {
		for range maxVars {
			h.Bump(1 + r.below(maxVars))
			if r.below(300) == 0 {
				h.Decay()
			}
		}
		slices.SortFunc(want, func(v, w int) int {
			return cmp.Or(cmp.Compare(h.Score(w), h.Score(v)), cmp.Compare(v, w))
		})
		if got := drain(t, h); !slices.Equal(got, want) {
			t.Fatal("the order is another one")
		}
		for _, v := range r.shuffled(maxVars) {
			if !h.Put(v) {
				t.Fatalf("Put(%d) is false", v)
			}
		}
	}
}

// shuffled returns the numbers from 1 to n in another order.
func (r *recurrence) shuffled(n int) []int {
	list := make([]int, n)
	for i := range list {
		list[i] = i + 1
		k := r.below(i + 1)
		list[i], list[k] = list[k], list[i]
	}
	return list
}

// P0 for this layer: whatever numbers are passed, each call returns, also on heaps of numbers that no heap may have.
func TestWrongInputsReturn(t *testing.T) {
	for _, vars := range append([]int{-3, -1, 0, 1, 2}, extremes...) {
		h := scores.New(vars)
		if h == nil {
			t.Fatalf("New(%d) is nil", vars)
		}
		for _, v := range append([]int{-2, -1, 0, 1, 2}, extremes...) {
			h.Bump(v)
			h.Decay()
			h.Score(v)
			h.Rise()
			h.First()
			h.Take()
			h.In(v)
			h.Put(v)
		}
		if h.Len() < 0 || h.Rise() < 1 {
			t.Errorf("of %d variables %d are in", vars, h.Len())
		}
	}
}
