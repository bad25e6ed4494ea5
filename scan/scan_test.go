package scan

import (
	"math"
	"math/rand"
	"slices"
	"testing"

	"sundial/api"
	"sundial/blank"
	"sundial/cells"
	"sundial/claim"
	"sundial/finish"
	"sundial/give"
	"sundial/lift"
	"sundial/link"
	"sundial/mint"
	"sundial/plan"
	"sundial/pool"
	"sundial/settle"
	"sundial/task"
)

// half is how often a lower half goes into a word: a word is its high half times half, and its low half.
const half = 4294967296

// lastGen and lastIndex are the greatest generation and index that a reference has.
const (
	lastGen   = 4294967295
	lastIndex = 2147483647
)

// never is 2^60 + 1, and least and greatest are the least and the greatest int.
const (
	never    = 1152921504606846977
	least    = -9223372036854775808
	greatest = 9223372036854775807
)

// words are the edges of a word; from 1<<63 on they are ints below 0.
var words = []uint64{0, 1, 2, 3, 4, 5, 7, 8, 9, 64, 128, 131, 1<<31 - 1, 1 << 31, half - 1, half, half + 1, half + 2, half + 3, never - 1, never, never + 1, 1<<63 - 2, 1<<63 - 1, 1 << 63, 1<<63 + 1, 1<<63 + 2, lastGen * half, lastGen*half + 1, lastGen*half + 2, math.MaxUint64 - 1, math.MaxUint64}

// gens are the edges of a generation.
var gens = []uint64{0, 1, 1 << 31, lastGen - 1, lastGen}

// limits are the edges of a limit.
var limits = []int{least, least + 1, -never, -half, -2, -1, 0, 1, 2, 5, half, never - 1, never, never + 1, greatest - 1, greatest}

// flat and small are plans of which the head's way on stands at 7; of flat the slots' words State are at 8, 15 and 22, Dead at 9, 16 and 23, Next at 14, 21 and 28; of small State is at 9, 17 and 25, Dead at 10, 18 and 26, Next of the level 0 at 15, 23 and 31.
var (
	flat  = api.Plan{Threads: 1, Slots: 3, Levels: 1}
	small = api.Plan{Threads: 1, Slots: 3, Levels: 2}
)

// a, b and c are references to the slots 1, 2 and 3, and am, bm and cm those with the mark.
const (
	a  = 5*half + 2
	am = 5*half + 3
	b  = 7*half + 4
	bm = 7*half + 5
	c  = 6
	cm = 7
)

// rightPlans are such of which each number is the least, one between, or the greatest.
func rightPlans() []api.Plan {
	var l []api.Plan
	for _, threads := range []int{1, 3, 8} {
		for _, slots := range []int{1, 2, 5, 64} {
			for _, levels := range []int{1, 2, 4, 8} {
				l = append(l, api.Plan{Threads: threads, Slots: slots, Levels: levels, Gen: []uint64{0, 1, lastGen}[len(l)%3]})
			}
		}
	}
	return l
}

// wrongPlans are those of which one number alone is none that there is, and those of which several are.
func wrongPlans() []api.Plan {
	l := []api.Plan{{}, {Threads: -1, Slots: -1, Levels: -1}, {Threads: 9, Slots: 65, Levels: 9, Gen: half}, {Threads: math.MaxInt, Slots: math.MaxInt, Levels: math.MaxInt, Gen: math.MaxUint64}, {Threads: math.MinInt, Slots: math.MinInt, Levels: math.MinInt}}
	for _, n := range []int{math.MinInt, math.MinInt + 1, -1<<32 + 2, -64, -1, 0, 9, 65, 1000, 1 << 31, 1<<32 + 2, math.MaxInt - 1, math.MaxInt} {
		l = append(l, api.Plan{Threads: n, Slots: 3, Levels: 3}, api.Plan{Threads: 2, Slots: n, Levels: 3}, api.Plan{Threads: 2, Slots: 3, Levels: n})
	}
	for _, gen := range []uint64{half, half + 1, 1 << 63, math.MaxUint64} {
		l = append(l, api.Plan{Threads: 2, Slots: 3, Levels: 3, Gen: gen})
	}
	return l
}

// allPlans are those that are right, and those that are not.
func allPlans() []api.Plan {
	return append(rightPlans(), wrongPlans()...)
}

// ref puts a reference together, and genOf, indexOf and handleOf tell of one, with a mark or without, what it is of.
func ref(gen uint64, index int) uint64 { return gen*half + 2*uint64(index) }
func genOf(r uint64) uint64            { return r / half }
func indexOf(r uint64) int             { return int(r % half / 2) }
func handleOf(r uint64) uint64         { return r/half*half + r%half/2 }

// live and taken are states of a generation.
func live(gen uint64) uint64  { return gen*half + 2 }
func taken(gen uint64) uint64 { return gen*half + 3 }

// word is a number as a word.
func word(n int) uint64 { return uint64(n) }

// firstAt tells where a slot's words begin, by chapter 8's sums; nextAt where its way on at the lowest level stands, the head's of the slot 0; stateAt, deadAt and seqAt where its state, and the timer's deadline and number stand.
func firstAt(p api.Plan, slot int) int { return 4 + 3*p.Threads + p.Levels + (slot-1)*(6+p.Levels) }
func nextAt(p api.Plan, slot int) int {
	if slot == 0 {
		return 4 + 3*p.Threads
	}
	return firstAt(p, slot) + 6
}
func stateAt(p api.Plan, slot int) int { return firstAt(p, slot) }
func deadAt(p api.Plan, slot int) int  { return firstAt(p, slot) + 1 }
func seqAt(p api.Plan, slot int) int   { return firstAt(p, slot) + 2 }

// read is a load of the word at a place, by a reference.
func read(at int, by uint64) api.Deed { return api.Deed{Kind: 1, At: at, By: by} }

// move is a deed that is asked for, and what is told then.
type move struct {
	asked api.Deed
	found uint64
}

// loads is a step by which the word at a place is loaded, by a reference.
func loads(at int, by, found uint64) move { return move{read(at, by), found} }

// job is what Scan is asked.
type job struct {
	plan  api.Plan
	limit int
}

// scan makes the scanner of a job.
func (j job) scan() *Scanner { return Scan(j.plan, j.limit) }

// begins is the step 1, which finds the head's way on.
func (j job) begins(w uint64) move { return loads(nextAt(j.plan, 0), 0, w) }

// Of a slot that is reached by r: the steps 3, 4 and 5.
func (j job) weighs(r, d uint64) move { return loads(deadAt(j.plan, indexOf(r)), r, d) }
func (j job) looks(r, w uint64) move  { return loads(stateAt(j.plan, indexOf(r)), 0, w) }
func (j job) leads(r, w uint64) move  { return loads(nextAt(j.plan, indexOf(r)), r, w) }

// over are all steps by which a slot of the deadline d and the state s is passed over, from which w leads on.
func (j job) over(r, d, s, w uint64) []move {
	return []move{j.weighs(r, d), j.looks(r, s), j.leads(r, w)}
}

// sees are all steps by which a timer of the deadline d is seen.
func (j job) sees(r, d uint64) []move {
	return []move{j.weighs(r, d), j.looks(r, live(genOf(r)))}
}

// from is the step 1, and those of l behind it.
func (j job) from(w uint64, l ...move) []move { return append([]move{j.begins(w)}, l...) }

// sight asks whether a scanner tells that it is done, and something was seen, or that it is not so, again and again.
func sight(t *testing.T, k *Scanner, want bool) {
	t.Helper()
	for range 2 {
		if got := k.Seen(); got != want {
			t.Fatalf("it tells %v, not %v", got, want)
		}
	}
}

// asks asks whether a scanner asks for d, and tells that nothing was seen so far, again and again.
func asks(t *testing.T, k *Scanner, d api.Deed) {
	t.Helper()
	for range 2 {
		if got, more := k.Next(); got != d || !more {
			t.Fatalf("%+v is asked for (%v), not %+v", got, more, d)
		}
		sight(t, k, false)
	}
}

// goes asks whether a scanner asks for the deeds of l, and tells it what is found.
func goes(t *testing.T, k *Scanner, l ...move) {
	t.Helper()
	for _, s := range l {
		asks(t, k, s.asked)
		k.Tell(s.found)
	}
}

// ended asks whether a scanner is done, and stays so, and as it is, whatever it is told.
func ended(t *testing.T, k *Scanner, seen bool) {
	t.Helper()
	for _, found := range []uint64{0, 1, a, am, 7, live(5), live(0), taken(5), 30, a, live(5), 1 << 63, math.MaxUint64, 0, 2} {
		if got, more := k.Next(); got != (api.Deed{}) || more {
			t.Fatalf("%+v is asked for (%v) by a task that is done", got, more)
		}
		sight(t, k, seen)
		k.Tell(found)
	}
	if got, more := k.Next(); got != (api.Deed{}) || more {
		t.Fatalf("a task that is done went on to %+v (%v)", got, more)
	}
	sight(t, k, seen)
}

// whole asks whether a job's scanner asks for the deeds of l, and is done then, having seen something, or nothing.
func (j job) whole(t *testing.T, seen bool, l ...move) {
	t.Helper()
	k := j.scan()
	goes(t, k, l...)
	ended(t, k, seen)
}

// tale is the task that a job comes to by the chapter's sentences: at is the number of the step, 0 when it is done.
type tale struct {
	job
	at   int
	cur  uint64
	seen bool
}

// tale makes the tale of a job.
func (j job) tale() *tale { return &tale{job: j, at: 1} }

func (s *tale) Next() (api.Deed, bool) {
	slot := indexOf(s.cur)
	switch s.at {
	case 1:
		return read(nextAt(s.plan, 0), 0), true
	case 3:
		return read(deadAt(s.plan, slot), s.cur), true
	case 4:
		return read(stateAt(s.plan, slot), 0), true
	case 5:
		return read(nextAt(s.plan, slot), s.cur), true
	}
	return api.Deed{}, false
}

func (s *tale) Tell(found uint64) {
	switch s.at {
	case 1, 5:
		// Step 2.
		if s.cur, s.at = found-found%2, 3; found%half < 2 {
			s.at = 0
		}
	case 3:
		if s.at = 4; int(found) >= s.limit {
			s.at = 0
		}
	case 4:
		if s.at = 5; found == genOf(s.cur)*half+2 {
			s.at, s.seen = 0, true
		}
	}
}

// pair is a scanner under way, and its tale.
type pair struct {
	fast *Scanner
	slow *tale
}

// pair makes the pair of a job.
func (j job) pair() pair { return pair{j.scan(), j.tale()} }

// same asks whether a scanner stands where its tale does, and tells whether it goes on.
func (g pair) same(t *testing.T) bool {
	t.Helper()
	want, more := g.slow.Next()
	if got, ok := g.fast.Next(); got != want || ok != more {
		t.Fatalf("Scan of %+v asks for %+v (%v), not for %+v (at %d)", g.slow.job, got, ok, want, g.slow.at)
	}
	if got := g.fast.Seen(); got != g.slow.seen {
		t.Fatalf("Scan of %+v tells %v, not %v (at %d)", g.slow.job, got, g.slow.seen, g.slow.at)
	}
	return more
}

// tell tells both what was found.
func (g pair) tell(found uint64) {
	g.fast.Tell(found)
	g.slow.Tell(found)
}

// made makes the memory at the beginning of a right plan.
func made(t *testing.T, p api.Plan) *cells.Cells {
	t.Helper()
	m, err := blank.Make(p)
	if err != api.OK {
		t.Fatalf("no memory of %+v: %d", p, err)
	}
	return m
}

// memory makes a memory of words.
func memory(t *testing.T, l []uint64) *cells.Cells {
	t.Helper()
	m, err := cells.Of(l)
	if err != api.OK {
		t.Fatal(err)
	}
	return m
}

// stands asks whether a memory has just these words.
func stands(t *testing.T, m *cells.Cells, l []uint64) {
	t.Helper()
	if got := m.Words(); !slices.Equal(got, l) {
		t.Fatalf("%v stand, not %v", got, l)
	}
}

// 27.1, the chapter's example: at the beginning it is done in one step, has seen nothing, and turns nothing, whatever the limit.
func TestExample(t *testing.T) {
	for _, limit := range limits {
		job{flat, limit}.whole(t, false, loads(7, 0, 0))
		for _, p := range rightPlans() {
			m := made(t, p)
			was := m.Words()
			k := Scan(p, limit)
			if l := task.Play(m, k, 99); !slices.Equal(l, []uint64{0}) {
				t.Fatalf("%v was found at the beginning of %+v", l, p)
			}
			ended(t, k, false)
			stands(t, m, was)
		}
	}
}

// 27.1, in numbers: of timers of the deadlines 3 (taken), 5 (of another generation by now), 7 (live) and 8 (live), of each limit.
func TestInNumbers(t *testing.T) {
	const d = 9*half + 8
	p := api.Plan{Threads: 1, Slots: 4, Levels: 2}
	three := []move{loads(7, 0, am), loads(10, a, 3)}
	five := append(slices.Clone(three), loads(9, 0, 5*half+3), loads(15, a, b), loads(18, b, 5))
	seven := append(slices.Clone(five), loads(17, 0, 8*half+2), loads(23, b, cm), loads(26, c, 7))
	eight := append(slices.Clone(seven), loads(25, 0, 2))
	for _, limit := range []int{least, -1, 0, 2, 3} {
		job{p, limit}.whole(t, false, three...)
	}
	for _, limit := range []int{4, 5} {
		job{p, limit}.whole(t, false, five...)
	}
	for _, limit := range []int{6, 7} {
		job{p, limit}.whole(t, false, seven...)
	}
	for _, limit := range []int{8, 9, never, greatest} {
		job{p, limit}.whole(t, true, eight...)
	}
	// The last one is as late as the limit, or later, if the one ahead of it is gone.
	gone := append(slices.Clone(seven), loads(25, 0, 3), loads(31, c, d), loads(34, d, 8))
	job{p, 8}.whole(t, false, gone...)
	job{p, 9}.whole(t, true, append(gone, loads(33, 0, 9*half+2))...)
	job{p, 9}.whole(t, false, append(gone, loads(33, 0, 9*half+1), loads(39, d, 1))...)
}

// 27.1: what the Load of Dead finds is an int: one that is the limit, or above, ends the scan with nothing seen, ahead of any look at the state; one below goes on.
func TestLimits(t *testing.T) {
	edges := append([]uint64{word(-2), word(-3), word(-half), word(-never), 20, 21}, words...)
	for _, n := range append([]int{3, 4, -3, 20, 1000, 1 << 40}, limits...) {
		for _, d := range append([]uint64{word(n - 1), word(n), word(n + 1)}, edges...) {
			j := job{small, n}
			if int(d) >= n {
				j.whole(t, false, j.begins(a), j.weighs(a, d))
				j.whole(t, false, j.begins(am), j.weighs(a, d))
				if n > least {
					j.whole(t, false, j.from(b, append(j.over(b, 1<<63, taken(7), am), j.weighs(a, d))...)...)
				}
				continue
			}
			j.whole(t, true, j.from(a, j.sees(a, d)...)...)
			j.whole(t, false, j.from(a, j.over(a, d, taken(5), 0)...)...)
			j.whole(t, true, j.from(a, append(j.over(a, d, live(6), b), j.sees(b, d)...)...)...)
		}
	}
	// In numbers.
	job{flat, 0}.whole(t, false, loads(7, 0, a), loads(9, a, 0))
	job{flat, 0}.whole(t, false, loads(7, 0, a), loads(9, a, 1))
	job{flat, 0}.whole(t, true, loads(7, 0, a), loads(9, a, math.MaxUint64), loads(8, 0, 5*half+2))
	job{flat, 0}.whole(t, true, loads(7, 0, a), loads(9, a, 1<<63), loads(8, 0, 5*half+2))
	job{flat, 1}.whole(t, false, loads(7, 0, a), loads(9, a, 1))
	job{flat, 1}.whole(t, true, loads(7, 0, a), loads(9, a, 0), loads(8, 0, 5*half+2))
	job{flat, -1}.whole(t, false, loads(7, 0, a), loads(9, a, math.MaxUint64))
	job{flat, -1}.whole(t, true, loads(7, 0, a), loads(9, a, math.MaxUint64-1), loads(8, 0, 5*half+2))
	job{flat, api.Never}.whole(t, false, loads(7, 0, a), loads(9, a, never))
	job{flat, api.Never}.whole(t, true, loads(7, 0, a), loads(9, a, never-1), loads(8, 0, 5*half+2))
	job{flat, greatest}.whole(t, false, loads(7, 0, a), loads(9, a, 1<<63-1))
	job{flat, greatest}.whole(t, true, loads(7, 0, a), loads(9, a, 1<<63-2), loads(8, 0, 5*half+2))
	job{flat, greatest}.whole(t, true, loads(7, 0, a), loads(9, a, 1<<63), loads(8, 0, 5*half+2))
	job{flat, least}.whole(t, false, loads(7, 0, a), loads(9, a, 1<<63))
	job{flat, least}.whole(t, false, loads(7, 0, a), loads(9, a, math.MaxUint64))
	job{flat, least}.whole(t, false, loads(7, 0, a), loads(9, a, 0))
	job{flat, least + 1}.whole(t, true, loads(7, 0, a), loads(9, a, 1<<63), loads(8, 0, 5*half+2))
	job{flat, least + 1}.whole(t, false, loads(7, 0, a), loads(9, a, 1<<63+1))
}

// 27.1: of all plans, of no level, of as many as there may be, of fewer than none, and of those that are not right, the deeds are at the places of chapter 8's sums.
func TestPlans(t *testing.T) {
	for _, p := range allPlans() {
		for _, slot := range []int{1, 2, p.Slots, p.Slots + 1, 64, 65, 1 << 30, lastIndex} {
			if slot < 1 || slot > lastIndex {
				continue
			}
			for _, gen := range gens {
				j, r := job{p, 6}, ref(gen, slot)
				j.whole(t, false, j.begins(r), j.weighs(r, 6))
				j.whole(t, true, j.from(r, j.sees(r, 5)...)...)
				l := j.from(r, j.over(r, 4, taken(gen), b)...)
				j.whole(t, true, slices.Concat(l, j.sees(b, 5))...)
				j.whole(t, false, append(l, j.weighs(b, 6))...)
				j.whole(t, true, slices.Concat(l, j.over(b, 5, 0, r), j.sees(r, 4))...)
			}
		}
	}
	// Of no level the head's way on is where the first slot's state stands.
	none := api.Plan{Threads: 1, Slots: 3}
	job{none, 6}.whole(t, true, loads(7, 0, a), loads(8, a, 5), loads(7, 0, 5*half+2))
	job{none, 6}.whole(t, false, loads(7, 0, a), loads(8, a, 5), loads(7, 0, a+2), loads(13, a, 0))
	job{none, 6}.whole(t, false, loads(7, 0, b), loads(14, b, 5), loads(13, 0, b), loads(19, b, 1))
	for _, levels := range []int{-1, -7, math.MinInt + 1, math.MinInt} {
		j := job{api.Plan{Threads: 1, Slots: 3, Levels: levels}, 6}
		j.whole(t, true, j.from(a, j.sees(a, 5)...)...)
		j.whole(t, true, j.from(a, append(j.over(a, 5, 0, b), j.sees(b, 5)...)...)...)
	}
	// Of the level -1 the first slot's words begin ahead of the head's way on.
	less := api.Plan{Threads: 1, Slots: 3, Levels: -1}
	job{less, 6}.whole(t, true, loads(7, 0, a), loads(7, a, 5), loads(6, 0, 5*half+3), loads(12, a, b), loads(12, b, 5), loads(11, 0, 7*half+2))
}

// ways are words that lead on, or do not: the edges, and references to slots that there are, and that there are not, with a mark and without.
func ways() []uint64 {
	l := append([]uint64{a, am, b, bm, c, cm}, words...)
	for _, gen := range gens {
		for _, slot := range []int{0, 1, 2, 3, 4, 64, 65, 1 << 30, lastIndex} {
			l = append(l, ref(gen, slot), ref(gen, slot)+1)
		}
	}
	return l
}

// 27.1: the head's way on, and a slot's, may be any word: one that is none, with whatever generation and mark, ends the scan with nothing seen, any other one leads on to its slot, which is reached without the mark.
func TestWaysOn(t *testing.T) {
	for _, p := range []api.Plan{flat, small, {Threads: 8, Slots: 64, Levels: 8}, {}} {
		for _, w := range ways() {
			j, r := job{p, 6}, w-w%2
			heads := [][]move{
				j.from(w),
				j.from(b, j.over(b, 5, taken(7), w)...),
				j.from(bm, append(j.over(b, 5, live(8), c), j.over(c, 5, 1, w)...)...),
			}
			for _, l := range heads {
				if w%half < 2 {
					j.whole(t, false, l...)
					continue
				}
				j.whole(t, false, append(l, j.weighs(r, 6))...)
				j.whole(t, true, slices.Concat(l, j.sees(r, 5))...)
				j.whole(t, false, slices.Concat(l, j.over(r, 5, taken(genOf(r)), 1))...)
			}
		}
	}
}

// 27.1: a way on that leads to the same slot again, with the mark or without, is gone on with, again and again.
func TestTheSameAgain(t *testing.T) {
	for _, r := range []uint64{2, a, b, ref(lastGen, lastIndex)} {
		j := job{flat, 6}
		l := j.from(r)
		for n := range uint64(1000) {
			l = append(l, j.over(r, 5-n%3, taken(genOf(r)), r+n%2)...)
		}
		j.whole(t, true, slices.Concat(l, j.sees(r, 5))...)
		j.whole(t, false, append(l, j.weighs(r, 6))...)
	}
	// In a memory in which a slot leads to itself it goes on for ever, as it is told.
	m := made(t, flat)
	m.Store(7, 2)
	m.Store(14, 3)
	was := m.Words()
	k := Scan(flat, 9)
	if l := task.Play(m, k, 5000); len(l) != 5000 {
		t.Fatalf("it is done behind %d", len(l))
	}
	sight(t, k, false)
	stands(t, m, was)
	// As soon as its state is live, or its deadline is the limit, it is done.
	m.Store(8, 2)
	task.Play(m, k, 3)
	ended(t, k, true)
	late := Scan(flat, 9)
	m.Store(8, 3)
	task.Play(m, late, 5000)
	m.Store(9, 9)
	task.Play(m, late, 3)
	ended(t, late, false)
}

// states are words that are found as a state of a generation: the edges, each status of it, of those beside it and of others, each that is not it by one bit alone, and such that are no state.
func states(gen uint64) []uint64 {
	l := slices.Clone(words)
	for _, g := range append([]uint64{gen, gen - 1, gen + 1}, gens...) {
		for _, status := range []uint64{0, 1, 2, 3, 4, 5, 6, 64, 1 << 31, half - 2, half - 1} {
			l = append(l, g*half+status)
		}
	}
	for bit := range 64 {
		l = append(l, live(gen)^1<<bit)
	}
	return l
}

// 27.1: just what is live, of cur's generation, is seen, and ends the scan without a further Load; all else is passed over.
func TestStates(t *testing.T) {
	for _, p := range []api.Plan{flat, small, {Levels: -1}} {
		for _, gen := range append([]uint64{5, 6}, gens...) {
			for _, slot := range []int{1, 2, 3, 65, lastIndex} {
				j, r, lives := job{p, 6}, ref(gen, slot), 0
				for i, w := range states(gen) {
					mark := uint64(i % 2)
					if w == gen*half+2 {
						lives++
						j.whole(t, true, j.begins(r+mark), j.weighs(r, 5), j.looks(r, w))
						j.whole(t, true, j.from(b, append(j.over(b, 5, 0, r+mark), j.weighs(r, 5), j.looks(r, w))...)...)
						continue
					}
					j.whole(t, false, j.from(r+mark, j.over(r, 5, w, mark)...)...)
					j.whole(t, true, j.from(r+mark, append(j.over(r, 5, w, bm), j.sees(b, 5)...)...)...)
				}
				if lives == 0 {
					t.Fatalf("the generation %d never lives", gen)
				}
			}
		}
	}
}

// 27.1: the first one that is live ends it, and the first one that is late does, however many were passed over, and whatever stands behind.
func TestMany(t *testing.T) {
	for _, limit := range []int{10, 11, never, greatest} {
		for _, n := range []uint64{0, 1, 2, 3, 64, 65, 3000} {
			for _, end := range []int{0, 1, 2} {
				j := job{small, limit}
				k := j.scan()
				k.Tell(3)
				r := uint64(2)
				for i := range n {
					next := ref((i+1)%4, int((i+1)%3)+1)
					for _, s := range j.over(r, word(limit)-1-i%5, []uint64{taken(i % 4), live(i%4 + 1)}[i%2], next+i%2) {
						if d, more := k.Next(); d != s.asked || !more || k.Seen() {
							t.Fatalf("%+v is asked for (%v), not %+v, behind %d", d, more, s.asked, i)
						}
						k.Tell(s.found)
					}
					r = next
				}
				switch end {
				case 0:
					goes(t, k, j.sees(r, word(limit-1))...)
				case 1:
					goes(t, k, j.weighs(r, word(limit)))
				case 2:
					goes(t, k, j.over(r, word(limit-1), taken(genOf(r)), 1)...)
				}
				ended(t, k, end == 0)
			}
		}
	}
}

// 27.1: a chain that does not rise is gone along as it stands: what is behind a late one is not seen, and each deadline is held against the limit alone.
func TestChainsThatDoNotRise(t *testing.T) {
	j := job{flat, 6}
	j.whole(t, false, j.from(a, append(j.over(a, 1, 0, b), j.weighs(b, 9))...)...)
	j.whole(t, true, j.from(a, slices.Concat(j.over(a, 5, 0, b), j.over(b, 1, 0, c), j.over(c, 4, 9, a), j.sees(a, word(-7)))...)...)
	j.whole(t, false, j.from(a, slices.Concat(j.over(a, 5, 0, b), j.over(b, 1, 0, c), j.over(c, 4, 9, a), []move{j.weighs(a, 6)})...)...)
}

// choices are words that may be found at a step of a tale: those that the chapter tells apart, and others.
func (s *tale) choices() []uint64 {
	gen := genOf(s.cur)
	switch s.at {
	case 3:
		return []uint64{word(s.limit - 1), word(s.limit), word(s.limit + 1)}
	case 4:
		return []uint64{live(gen), taken(gen), live(gen + 1)}
	}
	return []uint64{0, 1, a, am, b, 9*half + 1, s.cur}
}

// 27.1: whatever of the words that the chapter tells apart is found at each of the first steps, it goes on as the chapter's sentences say.
func TestWhateverIsFound(t *testing.T) {
	for _, limit := range []int{least, -1, 0, 1, never, greatest} {
		for _, p := range []api.Plan{{}, flat, small} {
			j := job{p, limit}
			var l []uint64
			var fill func()
			fill = func() {
				g := j.pair()
				for _, found := range l {
					g.tell(found)
				}
				if !g.same(t) || len(l) == 10 {
					return
				}
				for _, found := range g.slow.choices() {
					l = append(l, found)
					fill()
					l = l[:len(l)-1]
				}
			}
			fill()
		}
	}
}

// anyPlan is a plan of chance, of which a number may be any.
func anyPlan(r *rand.Rand) api.Plan {
	n := func(most int) int {
		if r.Intn(8) == 0 {
			return int(r.Uint64())
		}
		return r.Intn(most+4) - 2
	}
	return api.Plan{Threads: n(8), Slots: n(64), Levels: n(8), Gen: r.Uint64()}
}

// anyRef is a reference of chance, of an edge, with a mark or without, or any word.
func anyRef(r *rand.Rand) uint64 {
	switch r.Intn(4) {
	case 0:
		return r.Uint64()
	case 1:
		return words[r.Intn(len(words))]
	}
	return ref([]uint64{0, 1, uint64(r.Uint32()), lastGen}[r.Intn(4)], r.Intn(70)) + uint64(r.Intn(2))
}

// anyLimit is a limit of chance.
func anyLimit(r *rand.Rand) int {
	switch r.Intn(4) {
	case 0:
		return limits[r.Intn(len(limits))]
	case 1:
		return int(r.Uint64())
	}
	return r.Intn(12) - 4
}

// luck is what is found at a step of a tale by chance, mostly such that it goes on.
func (s *tale) luck(r *rand.Rand) uint64 {
	some := s.choices()
	switch {
	case r.Intn(20) == 0:
		return anyRef(r)
	case s.at == 1 || s.at == 5 && r.Intn(6) > 0:
		return ref(uint64(r.Uint32()), 1+r.Intn(70)) + uint64(r.Intn(2))
	case s.at == 3 && r.Intn(8) > 0:
		return word(s.limit) - 1 - uint64(r.Intn(9))
	case s.at == 4 && r.Intn(5) > 0:
		return []uint64{taken(genOf(s.cur)), live(genOf(s.cur) + 1), r.Uint64()}[r.Intn(3)]
	}
	return some[r.Intn(len(some))]
}

// 27.1: words of chance, of which most are such as the chapter tells apart, of plans and limits of chance.
func TestWordsOfChance(t *testing.T) {
	r := rand.New(rand.NewSource(27))
	sees, ends, lates, under := 0, 0, 0, 0
	for range 20000 {
		g := job{anyPlan(r), anyLimit(r)}.pair()
		more, last := g.same(t), 0
		for n := 0; more && n < 20; n++ {
			last = g.slow.at
			g.tell(g.slow.luck(r))
			more = g.same(t)
		}
		switch {
		case more:
			under++
		case g.slow.seen:
			sees++
		case last == 3:
			lates++
		default:
			ends++
		}
	}
	if sees < 2000 || ends < 2000 || lates < 2000 || under < 500 {
		t.Errorf("%d have seen something, %d came to the end, %d to what is late, and %d were under way still", sees, ends, lates, under)
	}
}

// course is a job of which the course is gone.
var course = job{small, 10}

// ran are the steps of the course, with all kinds of deeds, and all that becomes of them, up to where it is asked for the state of the slot 2.
func ran() []move {
	j := course
	return j.from(am, slices.Concat(
		j.over(a, 1, taken(5), b),
		j.over(b, 2, live(8), cm),
		j.over(c, 3, 1, am),
		j.over(a, 9, live(4), bm),
		[]move{j.weighs(b, 9)})...)
}

// 27.1: asking changes nothing, however often, be it Next or Seen: ahead of the first step, at each kind of step, and at the end.
func TestAskingChangesNothing(t *testing.T) {
	for _, seen := range []bool{false, true} {
		l := ran()
		if seen {
			l = append(l, course.looks(b, live(7)))
		} else {
			l = append(l[:len(l)-1], course.weighs(b, 10))
		}
		k := course.scan()
		sight(t, k, false)
		for _, s := range l {
			for range 100 {
				asks(t, k, s.asked)
			}
			k.Tell(s.found)
		}
		for range 50 {
			ended(t, k, seen)
		}
	}
}

// 27.1: a task is told ahead of being asked, and goes on all the same.
func TestTellAheadOfNext(t *testing.T) {
	l := append(ran(), course.looks(b, live(7)))
	for n := range l {
		k := course.scan()
		for _, s := range l[:n] {
			k.Tell(s.found)
		}
		asks(t, k, l[n].asked)
	}
	k := course.scan()
	for _, s := range l {
		k.Tell(s.found)
	}
	ended(t, k, true)
	for _, p := range allPlans() {
		k := Scan(p, 6)
		k.Tell(a)
		k.Tell(6)
		ended(t, k, false)
		k = Scan(p, 6)
		k.Tell(a)
		k.Tell(5)
		k.Tell(live(5))
		ended(t, k, true)
		k = Scan(p, 6)
		k.Tell(9*half + 1)
		ended(t, k, false)
	}
}

// 27.1: Seen ahead of the first Next, behind each step without any Next, and at the end.
func TestSeenAtEachMoment(t *testing.T) {
	for _, end := range []struct {
		found uint64
		seen  bool
	}{{live(7), true}, {taken(7), false}} {
		k := course.scan()
		for _, s := range ran() {
			sight(t, k, false)
			k.Tell(s.found)
		}
		sight(t, k, false)
		k.Tell(end.found)
		sight(t, k, end.seen)
		for range 9 {
			k.Tell(0)
			sight(t, k, end.seen)
		}
	}
	for _, p := range allPlans() {
		for _, limit := range limits {
			k := Scan(p, limit)
			sight(t, k, false)
			k.Tell(a)
			sight(t, k, false)
			k.Tell(1 << 63)
			sight(t, k, false)
			k.Tell(live(5))
			sight(t, k, limit > least)
		}
	}
}

// 27.1 and R7: a scanner that is nil, or that no call made, is done, stays so, does nothing, and has seen nothing.
func TestTasksThatNoCallMade(t *testing.T) {
	var none *Scanner
	for _, k := range []*Scanner{none, {}, new(Scanner)} {
		sight(t, k, false)
		ended(t, k, false)
		for _, w := range words {
			k.Tell(w)
			sight(t, k, false)
		}
		m := made(t, small)
		m.Store(7, 2)
		m.Store(9, 2)
		was := m.Words()
		if l := task.Play(m, k, 9); len(l) != 0 {
			t.Errorf("%v was found", l)
		}
		stands(t, m, was)
		ended(t, k, false)
	}
}

// 27.1: each scanner goes its own way, of the same job and of others.
func TestTasksAreApart(t *testing.T) {
	x, y, other := course.scan(), course.scan(), Scan(flat, 4)
	for _, s := range ran() {
		asks(t, x, s.asked)
		asks(t, y, read(7, 0))
		asks(t, other, read(7, 0))
		x.Tell(s.found)
	}
	goes(t, y, ran()[:8]...)
	goes(t, other, loads(7, 0, b), loads(16, b, 3), loads(15, 0, 7*half+2))
	goes(t, x, course.looks(b, taken(7)), course.leads(b, 1))
	goes(t, y, ran()[8:]...)
	goes(t, y, course.looks(b, live(7)))
	ended(t, other, true)
	ended(t, x, false)
	ended(t, y, true)
}

// 27.1: where there is no memory each deed finds 0, so there is nothing.
func TestNoMemory(t *testing.T) {
	for _, m := range []*cells.Cells{nil, new(cells.Cells)} {
		for _, p := range allPlans() {
			for _, limit := range limits {
				k := Scan(p, limit)
				if l := task.Play(m, k, 99); !slices.Equal(l, []uint64{0}) {
					t.Fatalf("%v was found of no memory", l)
				}
				ended(t, k, false)
				// Told that there is a timer it comes to nothing, at its deadline, or behind its state and its way on.
				k, want := Scan(p, limit), []uint64{0}
				k.Tell(2)
				if limit > 0 {
					want = []uint64{0, 0, 0}
				}
				if l := task.Play(m, k, 99); !slices.Equal(l, want) {
					t.Fatalf("%v was found of no memory", l)
				}
				ended(t, k, false)
			}
		}
	}
}

// 27.1: of plans that are not right, too, and of memories of any words, it goes as the steps say, wherever the sums put them, and turns nothing.
func TestAnyMemory(t *testing.T) {
	r := rand.New(rand.NewSource(271))
	sees, lates := 0, 0
	for _, p := range allPlans() {
		for range 200 {
			l := make([]uint64, r.Intn(120))
			for at := range l {
				l[at] = ref(uint64(r.Intn(2)), r.Intn(4)) + uint64(r.Intn(8)/7)
				if r.Intn(9) == 0 {
					l[at] = words[r.Intn(len(words))]
				}
			}
			j := job{p, anyLimit(r)}
			if r.Intn(2) == 0 {
				j.limit = greatest
			}
			m, g := memory(t, l), j.pair()
			found, want := task.Play(m, g.fast, 90), task.Play(memory(t, l), g.slow, 90)
			if !slices.Equal(found, want) {
				t.Fatalf("%v was found, not %v", found, want)
			}
			stands(t, m, l)
			if more := g.same(t); g.slow.seen {
				sees++
			} else if !more && len(found)%3 == 2 {
				lates++
			}
		}
	}
	if sees < 500 || lates < 500 {
		t.Errorf("%d have seen something, and %d came to what is late", sees, lates)
	}
}

// member is a slot that is in the lowest chain: its reference, its key, its state, and whether its way on is marked.
type member struct {
	ref   uint64
	key   api.Key
	state uint64
	out   bool
}

// lives tells whether a member's timer can be taken.
func (m member) lives() bool { return m.state == live(genOf(m.ref)) }

// less tells whether a key is less than another one, by chapter 3's sentence.
func less(x, y api.Key) bool {
	return x.Deadline < y.Deadline || x.Deadline == y.Deadline && x.Seq < y.Seq
}

// sorted sorts members by their keys, of which none is there twice.
func sorted(l []member) []member {
	slices.SortFunc(l, func(x, y member) int {
		if less(x.key, y.key) {
			return -1
		}
		return 1
	})
	return l
}

// lay lays the lowest chain of sorted members on the words of a plan, the last one of which leads to end.
func lay(stand []uint64, p api.Plan, l []member, end uint64) {
	from, mark := 0, uint64(0)
	for _, m := range l {
		slot := indexOf(m.ref)
		stand[stateAt(p, slot)], stand[deadAt(p, slot)], stand[seqAt(p, slot)] = m.state, word(m.key.Deadline), m.key.Seq
		stand[nextAt(p, from)] = m.ref + mark
		from, mark = slot, 0
		if m.out {
			mark = 1
		}
	}
	stand[nextAt(p, from)] = end + mark
}

// earlier tells whether there is a live one of members with a deadline below a limit.
func earlier(l []member, limit int) bool {
	return slices.ContainsFunc(l, func(m member) bool { return m.lives() && m.key.Deadline < limit })
}

// alone lets a scanner go alone where the lowest chain is that of sorted members, and asks whether it sees something just if there is a live one with a deadline below the limit, and turns nothing.
func alone(t *testing.T, p api.Plan, l []member, limit int, fill func(at int) uint64, end uint64) {
	t.Helper()
	stand := made(t, p).Words()
	for at := range stand {
		stand[at] = fill(at)
	}
	lay(stand, p, l, end)
	m, g := memory(t, stand), job{p, limit}.pair()
	if found, want := task.Play(m, g.fast, 9000), task.Play(memory(t, stand), g.slow, 9000); !slices.Equal(found, want) {
		t.Fatalf("%v was found, not %v", found, want)
	}
	ended(t, g.fast, earlier(l, limit))
	stands(t, m, stand)
}

// zero fills a memory with 0.
func zero(int) uint64 { return 0 }

// 27.2: done alone, in all lowest chains of up to three slots, in all their orders, of each state that the chapter tells apart, with ways on with the mark and without, of deadlines that are the same or rise, of each limit between: it sees something just if there is a live one below the limit.
func TestAloneInAllSmallChains(t *testing.T) {
	keys := [][]api.Key{
		{{Deadline: -1, Seq: 9}, {Deadline: 4, Seq: 4}, {Deadline: 4, Seq: 8}},
		{{Deadline: 4, Seq: 0}, {Deadline: 4, Seq: 1}, {Deadline: 6, Seq: 0}},
	}
	for n, order := range [][]int{{}, {1}, {3}, {1, 2}, {3, 1}, {1, 2, 3}, {1, 3, 2}, {2, 1, 3}, {2, 3, 1}, {3, 1, 2}, {3, 2, 1}} {
		most := 1
		for range order {
			most *= 8
		}
		for way := range most {
			l := make([]member, len(order))
			for i, left := 0, way; i < len(l); i, left = i+1, left/8 {
				gen := []uint64{0, 7, lastGen}[(i+n)%3]
				l[i] = member{ref: ref(gen, order[i]), key: keys[n%2][i], out: left%2 == 1}
				l[i].state = []uint64{live(gen), taken(gen), live(gen + 1), gen*half + 1}[left/2%4]
			}
			for _, limit := range []int{least, -2, -1, 0, 3, 4, 5, 6, 7, never, greatest} {
				alone(t, []api.Plan{flat, small}[way%2], l, limit, zero, 0)
			}
		}
	}
}

// newKey makes a key that none of members has.
func newKey(r *rand.Rand, l []member) api.Key {
	for {
		k := api.Key{Deadline: r.Intn(9) - 4, Seq: uint64(r.Intn(20))}
		if r.Intn(4) == 0 {
			k = api.Key{Deadline: int(words[r.Intn(len(words))]), Seq: words[r.Intn(len(words))]}
		}
		if !slices.ContainsFunc(l, func(m member) bool { return m.key == k }) {
			return k
		}
	}
}

// 27.2: done alone, in chains of chance of all right plans, with none that is live, with some, and with all, whatever stands in all other words: it sees something just if there is a live one below the limit.
func TestAloneInChainsOfChance(t *testing.T) {
	r := rand.New(rand.NewSource(272))
	sees, lates, none := 0, 0, 0
	for _, p := range rightPlans() {
		for _, lives := range []int{0, 1, 3, 8, 1 << 30} {
			for range 60 {
				var l []member
				for _, n := range r.Perm(p.Slots) {
					if r.Intn(8) == 0 {
						continue
					}
					gen := []uint64{0, 1, uint64(r.Uint32()), lastGen}[r.Intn(4)]
					m := member{ref: ref(gen, n+1), key: newKey(r, l), out: r.Intn(3) == 0, state: live(gen)}
					if r.Intn(lives+1) > 0 {
						m.state = []uint64{gen * half, gen*half + 1, taken(gen), gen*half + 4, gen*half + 5, live(gen + 1), live(gen - 1), gen}[r.Intn(8)]
					}
					l = append(l, m)
				}
				limit := r.Intn(12) - 6
				if r.Intn(3) == 0 {
					limit = limits[r.Intn(len(limits))]
				}
				l = sorted(l)
				if i := slices.IndexFunc(l, member.lives); i >= 0 && r.Intn(2) == 0 {
					limit = l[i].key.Deadline + r.Intn(2)
				}
				switch {
				case earlier(l, limit):
					sees++
				case slices.ContainsFunc(l, member.lives):
					lates++
				default:
					none++
				}
				alone(t, p, l, limit, func(int) uint64 { return anyRef(r) }, []uint64{0, uint64(r.Uint32()) * half}[r.Intn(2)])
			}
		}
	}
	if sees < 1000 || lates < 1000 || none < 1000 {
		t.Errorf("%d have seen something, of %d there were later ones, of %d none", sees, lates, none)
	}
}

// started makes a timer, whole (19 to 21), and lets who started it let go of it.
func started(m *cells.Cells, r *rand.Rand, p api.Plan, slot int) member {
	tall := 1 + r.Intn(p.Levels)
	k := mint.Mint(p, slot, r.Intn(9), tall)
	task.Play(m, k, 99)
	n := link.Link(p, k.Ref(), k.Key(), tall)
	task.Play(m, n, 9000)
	m.Store(stateAt(p, slot), live(genOf(k.Ref())))
	task.Play(m, lift.Lift(p, k.Ref(), k.Key(), tall, n.Preds(), n.Succs()), 9000)
	task.Play(m, settle.Settle(p, k.Ref(), k.Key()), 9000)
	return member{ref: k.Ref(), key: k.Key(), state: live(genOf(k.Ref()))}
}

// 27.2: of timers that were started by the tasks of layers 19 to 21, of which some were taken, and of these some went out of all chains (25) and some did not: alone it sees something just if there is a live one below the limit, till there is none at all.
func TestTimersThatWereStarted(t *testing.T) {
	r := rand.New(rand.NewSource(273))
	for _, p := range rightPlans() {
		m := made(t, p)
		var l []member
		for _, n := range r.Perm(p.Slots) {
			l = append(l, started(m, r, p, n+1))
		}
		l = sorted(l)
		for _, i := range append(r.Perm(len(l)), 0) {
			was := m.Words()
			for _, limit := range []int{least, -1, 0, 1, 2, 3, 4, 5, 6, 7, 8, 9, never, greatest} {
				k := Scan(p, limit)
				task.Play(m, k, 9000)
				ended(t, k, earlier(l, limit))
			}
			stands(t, m, was)
			k := claim.Claim(p, l[i].ref)
			task.Play(m, k, 9)
			l[i].state = taken(genOf(l[i].ref))
			if r.Intn(2) == 0 && k.Won() {
				task.Play(m, finish.Finish(p, l[i].ref, l[i].key), 9000)
			}
		}
		if earlier(l, greatest) {
			t.Fatalf("some live still: %+v", l)
		}
	}
}

// 27.1: one who scans, and one who claims a timer in between, at each step: what is taken ahead of the look at its state is passed over, and what is taken behind it was seen.
func TestClaimedInBetween(t *testing.T) {
	l := []member{{ref: b, key: api.Key{Deadline: 4, Seq: 7}, state: live(7)}, {ref: a, key: api.Key{Deadline: 4, Seq: 8}, state: live(5), out: true}, {ref: c, key: api.Key{Deadline: 5, Seq: 0}, state: live(0)}}
	stand := made(t, flat).Words()
	lay(stand, flat, l, 0)
	for limit := 3; limit < 8; limit++ {
		for first := range 12 {
			for second := first; second < 12; second++ {
				m, g := memory(t, stand), job{flat, limit}.pair()
				for n := range 12 {
					if n == first {
						task.Play(m, claim.Claim(flat, b), 1)
					}
					if n == second {
						task.Play(m, claim.Claim(flat, a), 1)
					}
					for _, found := range task.Play(m, g.fast, 1) {
						g.slow.Tell(found)
					}
					g.same(t)
				}
				// The state of b is looked at by the third step, those of a and c, if they are, by the sixth and the ninth one.
				want := limit > 4 && (first > 2 || second > 5 || limit > 5)
				ended(t, g.fast, want)
			}
		}
	}
}

// life is a timer's: how it is started, and whether somebody has taken it.
type life struct {
	task.Flow
	member
	linked bool // whether it is live, and in the lowest chain
	gone   bool
}

// worker is one who goes by turns with others: since when, and what it does; of those that scan their tale, and what was live below the limit when they began.
type worker struct {
	since int
	task  task.Task
	end   func()
	slow  *tale
	found []*life
}

// yard is where timers are started, stopped and finished by turns, and slots are handed back as soon as nobody is under way who was so when they were let go of.
type yard struct {
	r     *rand.Rand
	p     api.Plan
	m     *cells.Cells
	turn  int
	now   []*worker
	lives map[uint64]*life // by their handles
	waits [][2]uint64      // references, and since when
	seen  int
	none  int // how many came to see nothing, where there were timers
	again int // how many slots were used again
}

// add lets one more go on.
func (y *yard) add(t task.Task, end func()) *worker {
	w := &worker{since: y.turn, task: t, end: end}
	y.now = append(y.now, w)
	return w
}

// leaver is a task at the end of which somebody lets go of a timer.
type leaver interface {
	task.Task
	Retired() (api.Retired, bool)
}

// leave keeps the slot of a timer that was let go of.
func (y *yard) leave(k leaver) {
	if got, ok := k.Retired(); ok {
		y.waits = append(y.waits, [2]uint64{got.Ref, word(y.turn)})
	}
}

// start lets somebody start a timer in a free slot, if there is one.
func (y *yard) start() {
	free := pool.Pop(y.p)
	task.Play(y.m, free, 9)
	if free.Index() == 0 {
		return
	}
	deadline, tall := y.turn/100+y.r.Intn(9)-4, 1+y.r.Intn(y.p.Levels)
	one, k := &life{}, mint.Mint(y.p, free.Index(), deadline, tall)
	var last *settle.Settler
	one.To(k, func() {
		one.ref, one.key = k.Ref(), k.Key()
		y.lives[handleOf(one.ref)] = one
		n := link.Link(y.p, one.ref, one.key, tall)
		living := api.Deed{Kind: 2, At: stateAt(y.p, indexOf(one.ref)), A: live(genOf(one.ref))}
		one.To(n, func() {
			one.To(task.NewScript([]api.Deed{living}), func() {
				one.linked = true
				last = settle.Settle(y.p, one.ref, one.key)
				one.To(lift.Lift(y.p, one.ref, one.key, tall, n.Preds(), n.Succs()), func() { one.To(last, nil) })
			})
		})
	})
	y.add(one, func() { y.leave(last) })
}

// claim lets somebody stop one of the timers that live, if there are any, and bring it out of all chains.
func (y *yard) claim() {
	var some []*life
	for _, one := range y.lives {
		if one.linked && !one.gone {
			some = append(some, one)
		}
	}
	if len(some) == 0 {
		return
	}
	slices.SortFunc(some, func(x, y *life) int { return int(x.key.Seq) - int(y.key.Seq) })
	one := some[y.r.Intn(len(some))]
	if y.r.Intn(4) > 0 {
		one = some[0]
	}
	task.Play(y.m, claim.Claim(y.p, one.ref), 1)
	one.gone = true
	k := finish.Finish(y.p, one.ref, one.key)
	y.add(k, func() { y.leave(k) })
}

// scan lets somebody look for what is below a limit.
func (y *yard) scan(t *testing.T) {
	limit := y.turn/100 + y.r.Intn(9) - 6
	k := Scan(y.p, limit)
	w := y.add(k, nil)
	w.slow = job{y.p, limit}.tale()
	for _, one := range y.lives {
		if one.linked && !one.gone && one.key.Deadline < limit {
			w.found = append(w.found, one)
		}
	}
	w.end = func() {
		if k.Seen() {
			y.seen++
			return
		}
		if len(y.lives) > 1 {
			y.none++
		}
		for _, one := range w.found {
			if !one.gone {
				t.Fatalf("%+v, which was there all the while, was not seen by the limit %d", one.member, limit)
			}
		}
	}
}

// goOn lets one go on by a step.
func (y *yard) goOn(t *testing.T) {
	i := y.r.Intn(len(y.now))
	w := y.now[i]
	for _, found := range task.Play(y.m, w.task, 1) {
		if k, ok := w.task.(*Scanner); ok {
			w.slow.Tell(found)
			pair{k, w.slow}.same(t)
			one := y.lives[handleOf(w.slow.cur)]
			if k.Seen() && (one == nil || !one.linked || one.gone || one.key.Deadline >= w.slow.limit) {
				t.Fatalf("%+v was seen by the limit %d", one, w.slow.limit)
			}
		}
	}
	if _, more := w.task.Next(); !more {
		y.now = slices.Delete(y.now, i, i+1)
		w.end()
	}
}

// back hands back the slots that wait, if nobody is under way who was so when they were let go of.
func (y *yard) back() {
	y.waits = slices.DeleteFunc(y.waits, func(waits [2]uint64) bool {
		for _, w := range y.now {
			if word(w.since) <= waits[1] {
				return false
			}
		}
		task.Play(y.m, give.Give(y.p, waits[0]), 9)
		delete(y.lives, handleOf(waits[0]))
		y.again++
		return true
	})
}

// 27.1 and 27.2: timers that are started, stopped and finished, while several scan, all by turns, and slots are used again: what somebody sees lives at that step, and is below the limit; nothing that lived below the limit all the while is passed over.
func TestInTurns(t *testing.T) {
	r := rand.New(rand.NewSource(274))
	seen, none, again := 0, 0, 0
	for _, p := range rightPlans() {
		y := &yard{r: r, p: p, m: made(t, p), lives: map[uint64]*life{}}
		for y.turn = range 20000 {
			switch n := r.Intn(40); {
			case n < 5 && len(y.now) < 10:
				y.start()
			case n < 7 && len(y.now) < 10:
				y.scan(t)
			case n < 9 && len(y.now) < 10:
				y.claim()
			case len(y.now) > 0:
				y.goOn(t)
			}
			y.back()
		}
		seen, none, again = seen+y.seen, none+y.none, again+y.again
	}
	if seen < 2000 || none < 2000 || again < 2000 {
		t.Errorf("%d have seen something, %d nothing, and %d slots were used again", seen, none, again)
	}
}

// 27.1: the scanner reaches the lowest chain's words alone: in whatever right plan the higher levels have no part in it, nor has the clock.
func TestLowestChainAlone(t *testing.T) {
	for _, p := range rightPlans() {
		m := made(t, p)
		for slot := range p.Slots + 1 {
			for level := 1; level < p.Levels; level++ {
				m.Store(plan.Next(p, slot, level), ref(9, 1))
			}
		}
		m.Store(1, never)
		m.Store(nextAt(p, 0), ref(0, 1))
		m.Store(stateAt(p, 1), taken(0))
		m.Store(nextAt(p, 1), 0)
		k := Scan(p, 9)
		if l := task.Play(m, k, 99); !slices.Equal(l, []uint64{2, 0, 3, 0}) {
			t.Fatalf("%v was found in %+v", l, p)
		}
		ended(t, k, false)
	}
}
