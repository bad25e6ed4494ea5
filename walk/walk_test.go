package walk

import (
	"math"
	"math/rand"
	"slices"
	"testing"

	"sundial/api"
	"sundial/blank"
	"sundial/cells"
	"sundial/claim"
	"sundial/finish"
	"sundial/give"
	"sundial/lift"
	"sundial/link"
	"sundial/mint"
	"sundial/plan"
	"sundial/pool"
	"sundial/settle"
	"sundial/task"
)

// half is how often a lower half goes into a word: a word is its high half times half, and its low half.
const half = 4294967296

// lastGen and lastIndex are the greatest generation and index that a reference has.
const (
	lastGen   = 4294967295
	lastIndex = 2147483647
)

// words are the edges of a word; from 1<<63 on they are ints below 0.
var words = []uint64{0, 1, 2, 3, 4, 5, 7, 8, 9, 64, 128, 131, 1<<31 - 1, 1 << 31, half - 1, half, half + 1, half + 2, half + 3, api.MaxTime, api.Never, 1<<63 - 1, 1 << 63, 1<<63 + 1, 1<<63 + 2, lastGen * half, lastGen*half + 1, lastGen*half + 2, math.MaxUint64 - 1, math.MaxUint64}

// gens are the edges of a generation.
var gens = []uint64{0, 1, 1 << 31, lastGen - 1, lastGen}

// counts are the edges of how many may be taken.
var counts = []int{math.MinInt, math.MinInt + 1, -half, -2, -1, 0, 1, 2, 3, 4, api.MaxBatch, half, math.MaxInt - 1, math.MaxInt}

// flat and small are plans of which the head's way on stands at 7; of flat the slots' words State are at 8, 15 and 22, Dead at 9, 16 and 23, Seq at 10, 17 and 24, Next at 14, 21 and 28; of small State is at 9, 17 and 25, Dead at 10, 18 and 26, Seq at 11, 19 and 27, Next of the level 0 at 15, 23 and 31.
var (
	flat  = api.Plan{Threads: 1, Slots: 3, Levels: 1}
	small = api.Plan{Threads: 1, Slots: 3, Levels: 2}
)

// a, b and c are references to the slots 1, 2 and 3, and am, bm and cm those with the mark; ah, bh and ch are the handles of their timers.
const (
	a  = 5*half + 2
	am = 5*half + 3
	ah = 5*half + 1
	b  = 7*half + 4
	bm = 7*half + 5
	bh = 7*half + 2
	c  = 6
	cm = 7
	ch = 3
)

// rightPlans are such of which each number is the least, one between, or the greatest.
func rightPlans() []api.Plan {
	var l []api.Plan
	for _, threads := range []int{1, 3, 8} {
		for _, slots := range []int{1, 2, 5, 64} {
			for _, levels := range []int{1, 2, 4, 8} {
				l = append(l, api.Plan{Threads: threads, Slots: slots, Levels: levels, Gen: []uint64{0, 1, lastGen}[len(l)%3]})
			}
		}
	}
	return l
}

// wrongPlans are those of which one number alone is none that there is, and those of which several are.
func wrongPlans() []api.Plan {
	l := []api.Plan{{}, {Threads: -1, Slots: -1, Levels: -1}, {Threads: 9, Slots: 65, Levels: 9, Gen: half}, {Threads: math.MaxInt, Slots: math.MaxInt, Levels: math.MaxInt, Gen: math.MaxUint64}, {Threads: math.MinInt, Slots: math.MinInt, Levels: math.MinInt}}
	for _, n := range []int{math.MinInt, math.MinInt + 1, -1<<32 + 2, -64, -1, 0, 9, 65, 1000, 1 << 31, 1<<32 + 2, math.MaxInt - 1, math.MaxInt} {
		l = append(l, api.Plan{Threads: n, Slots: 3, Levels: 3}, api.Plan{Threads: 2, Slots: n, Levels: 3}, api.Plan{Threads: 2, Slots: 3, Levels: n})
	}
	for _, gen := range []uint64{half, half + 1, 1 << 63, math.MaxUint64} {
		l = append(l, api.Plan{Threads: 2, Slots: 3, Levels: 3, Gen: gen})
	}
	return l
}

// allPlans are those that are right, and those that are not.
func allPlans() []api.Plan {
	return append(rightPlans(), wrongPlans()...)
}

// ref puts a reference together, and genOf, indexOf and handleOf tell of one, with a mark or without, what it is of.
func ref(gen uint64, index int) uint64 { return gen*half + 2*uint64(index) }
func genOf(r uint64) uint64            { return r / half }
func indexOf(r uint64) int             { return int(r % half / 2) }
func handleOf(r uint64) uint64         { return r/half*half + r%half/2 }

// live and taken are states of a generation.
func live(gen uint64) uint64  { return gen*half + 2 }
func taken(gen uint64) uint64 { return gen*half + 3 }

// word is a number as a word.
func word(n int) uint64 { return uint64(n) }

// firstAt tells where a slot's words begin, by chapter 8's sums; nextAt where its way on at the lowest level stands, the head's of the slot 0; stateAt, deadAt and seqAt where its state, and the timer's deadline and number stand.
func firstAt(p api.Plan, slot int) int { return 4 + 3*p.Threads + p.Levels + (slot-1)*(6+p.Levels) }
func nextAt(p api.Plan, slot int) int {
	if slot == 0 {
		return 4 + 3*p.Threads
	}
	return firstAt(p, slot) + 6
}
func stateAt(p api.Plan, slot int) int { return firstAt(p, slot) }
func deadAt(p api.Plan, slot int) int  { return firstAt(p, slot) + 1 }
func seqAt(p api.Plan, slot int) int   { return firstAt(p, slot) + 2 }

// Deeds by their kinds, for short: a load, and a swap, which nobody does by a reference.
func read(at int, by uint64) api.Deed { return api.Deed{Kind: 1, At: at, By: by} }
func swap(at int, old, w uint64) api.Deed {
	return api.Deed{Kind: 3, At: at, A: old, B: w}
}

// move is a deed that is asked for, and what is told then; by which a timer of a handle and a deadline is taken, if there is a handle, or the number of the one that was taken last is found.
type move struct {
	asked    api.Deed
	found    uint64
	handle   uint64
	deadline int
	numbers  bool
}

// Steps by what they are for, for short: a load, a swap in vain, one that takes a timer, and the load of its number.
func loads(at int, by, found uint64) move { return move{asked: read(at, by), found: found} }
func fails(at int, old, found uint64) move {
	return move{asked: swap(at, old, old+1), found: found}
}
func takes(at int, old, handle uint64, deadline int) move {
	return move{asked: swap(at, old, old+1), found: old, handle: handle, deadline: deadline}
}
func numbers(at int, by, found uint64) move {
	return move{asked: read(at, by), found: found, numbers: true}
}

// job is what Walk is asked.
type job struct {
	plan  api.Plan
	count int
}

// walk makes the walker of a job.
func (j job) walk() *Walker { return Walk(j.plan, j.count) }

// begin are the steps 1 and 2, which find the time and the head's way on.
func (j job) begin(now, w uint64) []move {
	return []move{loads(1, 0, now), loads(nextAt(j.plan, 0), 0, w)}
}

// Of a slot that is reached by r: the steps 4, 5, 6 (in vain, and not), 7 and 8.
func (j job) weighs(r, d uint64) move { return loads(deadAt(j.plan, indexOf(r)), r, d) }
func (j job) looks(r, w uint64) move  { return loads(stateAt(j.plan, indexOf(r)), 0, w) }
func (j job) fails(r, found uint64) move {
	return fails(stateAt(j.plan, indexOf(r)), live(genOf(r)), found)
}
func (j job) takes(r, d uint64) move {
	return takes(stateAt(j.plan, indexOf(r)), live(genOf(r)), handleOf(r), int(d))
}
func (j job) numbers(r, n uint64) move { return numbers(seqAt(j.plan, indexOf(r)), r, n) }
func (j job) leads(r, w uint64) move   { return loads(nextAt(j.plan, indexOf(r)), r, w) }

// gets are all steps by which a timer is taken, of the deadline d and the number n, from which w leads on.
func (j job) gets(r, d, n, w uint64) []move {
	return []move{j.weighs(r, d), j.looks(r, live(genOf(r))), j.takes(r, d), j.numbers(r, n), j.leads(r, w)}
}

// walked is a walker under way, and what it has told as taken so far.
type walked struct {
	k    *Walker
	told []api.Due
}

// tells asks whether a walker tells what was taken so far, and that it was stopped so, again and again.
func (g *walked) tells(t *testing.T, stop int) {
	t.Helper()
	for range 2 {
		if got := g.k.Batch(); !slices.Equal(got, g.told) {
			t.Fatalf("%+v were taken, not %+v", got, g.told)
		}
		if got := g.k.Stop(); got != stop {
			t.Fatalf("it was stopped by %d, not by %d", got, stop)
		}
	}
}

// asks asks whether a walker asks for d, and tells what was taken so far, and that no deadline has stopped it, again and again.
func (g *walked) asks(t *testing.T, d api.Deed) {
	t.Helper()
	for range 2 {
		if got, more := g.k.Next(); got != d || !more {
			t.Fatalf("%+v is asked for (%v), not %+v", got, more, d)
		}
		g.tells(t, api.Never)
	}
}

// goes asks whether a walker asks for the deeds of l, and has found these then.
func (g *walked) goes(t *testing.T, l ...move) {
	t.Helper()
	for _, s := range l {
		g.asks(t, s.asked)
		g.tell(s)
	}
}

// tell tells a walker what was found by a step, and keeps what is taken by it.
func (g *walked) tell(s move) {
	g.k.Tell(s.found)
	if s.handle != 0 {
		g.told = append(g.told, api.Due{Handle: s.handle, Deadline: s.deadline})
	}
	if s.numbers {
		g.told[len(g.told)-1].Seq = s.found
	}
}

// ended asks whether a walker is done, and stays so, and as it is, whatever it is told.
func (g *walked) ended(t *testing.T, stop int) {
	t.Helper()
	for _, found := range []uint64{0, 1, a, am, 7, live(5), live(0), taken(5), 30, a, 1 << 63, math.MaxUint64, 0} {
		if got, more := g.k.Next(); got != (api.Deed{}) || more {
			t.Fatalf("%+v is asked for (%v) by a task that is done", got, more)
		}
		g.tells(t, stop)
		g.k.Tell(found)
	}
	if got, more := g.k.Next(); got != (api.Deed{}) || more {
		t.Fatalf("a task that is done went on to %+v (%v)", got, more)
	}
	g.tells(t, stop)
}

// whole asks whether a job's walker asks for the deeds of l, and is done then, stopped so.
func (j job) whole(t *testing.T, stop int, l ...move) {
	t.Helper()
	g := &walked{k: j.walk()}
	g.goes(t, l...)
	g.ended(t, stop)
}

// At which of the chapter's steps a task is; over, when it is done.
const over = 0

// tale is the task that a job comes to by the chapter's sentences.
type tale struct {
	job
	at   int
	now  int
	cur  uint64
	d    int
	told []api.Due
	stop int
}

// tale makes the tale of a job.
func (j job) tale() *tale { return &tale{job: j, at: 1, stop: 1152921504606846977} }

func (s *tale) Next() (api.Deed, bool) {
	gen, slot := genOf(s.cur), indexOf(s.cur)
	switch s.at {
	case 1:
		return read(1, 0), true
	case 2:
		return read(nextAt(s.plan, 0), 0), true
	case 4:
		return read(deadAt(s.plan, slot), s.cur), true
	case 5:
		return read(stateAt(s.plan, slot), 0), true
	case 6:
		return swap(stateAt(s.plan, slot), gen*half+2, gen*half+3), true
	case 7:
		return read(seqAt(s.plan, slot), s.cur), true
	case 8:
		return read(nextAt(s.plan, slot), s.cur), true
	}
	return api.Deed{}, false
}

func (s *tale) Tell(found uint64) {
	its := genOf(s.cur)*half + 2
	switch s.at {
	case 1:
		s.now, s.at = int(found), 2
	case 2, 8:
		// Step 3.
		if s.cur, s.at = found-found%2, 4; len(s.told) >= s.count || found%half < 2 {
			s.at = over
		}
	case 4:
		if s.d, s.at = int(found), 5; s.d > s.now {
			s.at, s.stop = over, s.d
		}
	case 5:
		if s.at = 8; found == its {
			s.at = 6
		}
	case 6:
		if s.at = 8; found == its {
			s.told, s.at = append(s.told, api.Due{Handle: handleOf(s.cur), Deadline: s.d}), 7
		}
	case 7:
		s.told[len(s.told)-1].Seq, s.at = found, 8
	}
}

// pair is a walker under way, and its tale.
type pair struct {
	fast *Walker
	slow *tale
}

// pair makes the pair of a job.
func (j job) pair() pair { return pair{j.walk(), j.tale()} }

// same asks whether a walker stands where its tale does, and tells the deed that is asked for.
func (g pair) same(t *testing.T) (api.Deed, bool) {
	t.Helper()
	want, more := g.slow.Next()
	if got, ok := g.fast.Next(); got != want || ok != more {
		t.Fatalf("Walk of %+v asks for %+v (%v), not for %+v (at %d)", g.slow.job, got, ok, want, g.slow.at)
	}
	if got := g.fast.Batch(); !slices.Equal(got, g.slow.told) {
		t.Fatalf("Walk of %+v has taken %+v, not %+v", g.slow.job, got, g.slow.told)
	}
	if got := g.fast.Stop(); got != g.slow.stop {
		t.Fatalf("Walk of %+v was stopped by %d, not by %d", g.slow.job, got, g.slow.stop)
	}
	return want, more
}

// tell tells both what was found.
func (g pair) tell(found uint64) {
	g.fast.Tell(found)
	g.slow.Tell(found)
}

// made makes the memory at the beginning of a right plan.
func made(t *testing.T, p api.Plan) *cells.Cells {
	t.Helper()
	m, err := blank.Make(p)
	if err != api.OK {
		t.Fatalf("no memory of %+v: %d", p, err)
	}
	return m
}

// memory makes a memory of words.
func memory(t *testing.T, l []uint64) *cells.Cells {
	t.Helper()
	m, err := cells.Of(l)
	if err != api.OK {
		t.Fatal(err)
	}
	return m
}

// stands asks whether a memory has just these words.
func stands(t *testing.T, m *cells.Cells, l []uint64) {
	t.Helper()
	if got := m.Words(); !slices.Equal(got, l) {
		t.Fatalf("%v stand, not %v", got, l)
	}
}

// 26.1 and 26.2, the chapter's example: at the beginning it is done in two steps, tells nothing and Never, and turns nothing, whatever the count.
func TestExample(t *testing.T) {
	for _, count := range counts {
		job{flat, count}.whole(t, 1152921504606846977, loads(1, 0, 0), loads(7, 0, 0))
		for _, p := range rightPlans() {
			m := made(t, p)
			was := m.Words()
			g := &walked{k: Walk(p, count)}
			if l := task.Play(m, g.k, 99); !slices.Equal(l, []uint64{0, 0}) {
				t.Fatalf("%v was found at the beginning of %+v", l, p)
			}
			g.ended(t, 1152921504606846977)
			stands(t, m, was)
		}
	}
}

// 26.1 and 26.2, in numbers: of timers of the deadlines 3 (live), 5 (taken), 7 (live, but taken by somebody else in between), 7 (live) and 8 (live), at the time 7.
func TestInNumbers(t *testing.T) {
	const d, e = 9*half + 8, lastGen*half + 10
	p := api.Plan{Threads: 1, Slots: 5, Levels: 2}
	job{p, 9}.whole(t, 8,
		loads(1, 0, 7), loads(7, 0, a),
		loads(10, a, 3), loads(9, 0, 5*half+2), takes(9, 5*half+2, 5*half+1, 3), numbers(11, a, 10), loads(15, a, bm),
		loads(18, b, 5), loads(17, 0, 7*half+3), loads(23, b, c),
		loads(26, c, 7), loads(25, 0, 2), fails(25, 2, 3), loads(31, c, d),
		loads(34, d, 7), loads(33, 0, 9*half+2), takes(33, 9*half+2, 9*half+4, 7), numbers(35, d, 13), loads(39, d, e+1),
		loads(42, e, 8))
	// As many as it may.
	job{p, 1}.whole(t, api.Never,
		loads(1, 0, 7), loads(7, 0, am),
		loads(10, a, 3), loads(9, 0, 5*half+2), takes(9, 5*half+2, 5*half+1, 3), numbers(11, a, 10), loads(15, a, b))
	// The first one is not due.
	job{p, 1}.whole(t, 8, loads(1, 0, 7), loads(7, 0, a), loads(10, a, 8))
}

// 26.1: of each count, and of chains of none, of one and of more: it is done as soon as so many were taken, behind the last one's way on, which may lead anywhere, without looking further.
func TestCounts(t *testing.T) {
	for n := range 7 {
		for _, count := range append([]int{n - 1, n, n + 1}, counts...) {
			for _, end := range []uint64{0, 1, 9 * half, a, am, ref(0, 65), math.MaxUint64} {
				j := job{small, count}
				r := ref(0, 1)
				if n == 0 || count <= 0 {
					if n > 0 {
						j.whole(t, api.Never, j.begin(5, r)...)
					} else if count <= 0 || end%half < 2 {
						j.whole(t, api.Never, j.begin(5, end)...)
					}
					continue
				}
				l := j.begin(5, r)
				for i := range min(n, count) {
					next := ref(uint64(i+1), i+2)
					if i == n-1 {
						next = end
					}
					l = append(l, j.gets(r, word(i-2), word(i), next)...)
					r = next - next%2
				}
				if n < count && end%half > 1 {
					// It goes on to what the last one leads to.
					j.whole(t, 6, append(l, j.weighs(r, 6))...)
					continue
				}
				j.whole(t, api.Never, l...)
			}
		}
	}
}

// 26.1: of a count of 0, or below, it is done behind the head's way on, whatever that is, and whatever the plan.
func TestNoCount(t *testing.T) {
	for _, p := range allPlans() {
		for _, count := range []int{0, -1, -2, -64, -half, math.MinInt + 1, math.MinInt} {
			for _, w := range append([]uint64{a, am, b, bm, c, cm}, words...) {
				j := job{p, count}
				j.whole(t, api.Never, j.begin(w, w)...)
				j.whole(t, api.Never, j.begin(math.MaxInt, w)...)
			}
		}
	}
}

// 26.1: those that are passed over count for nothing.
func TestCountsOfThoseThatWereTaken(t *testing.T) {
	j := job{flat, 2}
	over, vain := []move{j.weighs(a, 1), j.looks(a, taken(5)), j.leads(a, b)}, []move{j.weighs(b, 1), j.looks(b, live(7)), j.fails(b, taken(7)), j.leads(b, a)}
	l := j.begin(5, a)
	for range 50 {
		l = slices.Concat(l, over, vain)
	}
	l = append(l, j.gets(a, 2, 8, b)...)
	for range 50 {
		l = slices.Concat(l, vain, over)
	}
	j.whole(t, api.Never, append(l, j.gets(b, 4, 9, c)...)...)
}

// 26.1 and 26.2: of the greatest count it takes as many as there are, be there ever so many, the same one again and again among them.
func TestMany(t *testing.T) {
	for _, count := range []int{3000, 3001, math.MaxInt - 1, math.MaxInt} {
		j := job{flat, count}
		k := j.walk()
		var want []api.Due
		k.Tell(9)
		k.Tell(a)
		for n := range uint64(3000) {
			r := ref(n%4, int(n%3)+1)
			next := ref((n+1)%4, int((n+1)%3)+1)
			if n == 0 {
				r = a
			}
			if n == 2999 {
				next = 1
			}
			for _, s := range j.gets(r, n%10, n, next) {
				if d, more := k.Next(); d != s.asked || !more {
					t.Fatalf("%+v is asked for (%v), not %+v, behind %d", d, more, s.asked, n)
				}
				k.Tell(s.found)
			}
			want = append(want, api.Due{Handle: handleOf(r), Deadline: int(n % 10), Seq: n})
		}
		g := &walked{k, want}
		g.ended(t, api.Never)
	}
}

// 26.1: of all plans, of no level, of as many as there may be, of fewer than none, and of those that are not right, the deeds are at the places of chapter 8's sums.
func TestPlans(t *testing.T) {
	for _, p := range allPlans() {
		for _, slot := range []int{1, 2, p.Slots, p.Slots + 1, 64, 65, 1 << 30, lastIndex} {
			if slot < 1 || slot > lastIndex {
				continue
			}
			for _, gen := range gens {
				j, r := job{p, 2}, ref(gen, slot)
				l := append(j.begin(5, r), j.gets(r, 4, 8, b)...)
				j.whole(t, 6, append(l, j.weighs(b, 6))...)
				j.whole(t, api.Never, append(l, j.gets(b, 5, 9, r)...)...)
				j.whole(t, api.Never, append(l, j.weighs(b, 5), j.looks(b, live(7)), j.fails(b, 0), j.leads(b, 0))...)
			}
		}
	}
	// Of no level the head's way on is where the first slot's state stands.
	none := api.Plan{Threads: 1, Slots: 3}
	job{none, 1}.whole(t, api.Never, loads(1, 0, 5), loads(7, 0, a), loads(8, a, 5), loads(7, 0, 5*half+2), takes(7, 5*half+2, 5*half+1, 5), numbers(9, a, 3), loads(13, a, 0))
	for _, levels := range []int{-1, -7, math.MinInt} {
		j := job{api.Plan{Threads: 1, Slots: 3, Levels: levels}, 1}
		j.whole(t, api.Never, append(j.begin(5, a), j.gets(a, 5, 3, 0)...)...)
	}
}

// 26.1: what the Load of AtClock finds is an int, as is what the Loads of Dead find: one above it ends the walk, and is told by Stop, one that is not goes on.
func TestTimes(t *testing.T) {
	edges := append([]uint64{word(-2), word(-1 - 1<<60), 20, 21, 22, 1<<63 - 2}, words...)
	for _, now := range edges {
		deadlines := append([]uint64{now - 1, now, now + 1}, edges...)
		for _, d := range deadlines {
			j := job{small, 9}
			if int(d) > int(now) {
				j.whole(t, int(d), append(j.begin(now, a), j.weighs(a, d))...)
				j.whole(t, int(d), append(j.begin(now, b), j.weighs(b, 1<<63), j.looks(b, 0), j.leads(b, am), j.weighs(a, d))...)
				j.whole(t, int(d), slices.Concat(j.begin(now, b), j.gets(b, 1<<63, 6, am), []move{j.weighs(a, d)})...)
				continue
			}
			j.whole(t, api.Never, append(j.begin(now, a), j.gets(a, d, 7, 0)...)...)
			j.whole(t, api.Never, append(j.begin(now, a), j.weighs(a, d), j.looks(a, 0), j.leads(a, 0))...)
			j.whole(t, api.Never, append(j.begin(now, a), j.weighs(a, d), j.looks(a, live(5)), j.fails(a, 0), j.leads(a, 0))...)
		}
	}
	// In numbers.
	job{flat, 1}.whole(t, 0, loads(1, 0, 1<<63), loads(7, 0, a), loads(9, a, 0))
	job{flat, 1}.whole(t, 0, loads(1, 0, math.MaxUint64), loads(7, 0, a), loads(9, a, 0))
	job{flat, 1}.whole(t, -1, loads(1, 0, math.MaxUint64-1), loads(7, 0, a), loads(9, a, math.MaxUint64))
	job{flat, 1}.whole(t, 1, loads(1, 0, 0), loads(7, 0, a), loads(9, a, 1))
	job{flat, 1}.whole(t, 1152921504606846977, loads(1, 0, 1), loads(7, 0, a), loads(9, a, 1152921504606846977))
	job{flat, 1}.whole(t, 1152921504606846977, loads(1, 0, 1<<63-1), loads(7, 0, a), loads(9, a, 1152921504606846977), loads(8, 0, 3), loads(14, a, 0))
}

// 26.1: the time is loaded once, whatever the deadlines are.
func TestTheTimeStays(t *testing.T) {
	j := job{flat, 9}
	j.whole(t, 6, slices.Concat(j.begin(5, a), j.gets(a, 5, 1, b), j.gets(b, 1, 2, c), j.gets(c, 5, 3, a), []move{j.weighs(a, 6)})...)
	// A chain that does not rise is walked as it stands.
	j.whole(t, 9, slices.Concat(j.begin(8, a), j.gets(a, 8, 1, b), j.gets(b, 3, 2, c), j.gets(c, 7, 3, a), []move{j.weighs(a, 9)})...)
}

// ways are words that lead on, or do not: the edges, and references to slots that there are, and that there are not, with a mark and without.
func ways() []uint64 {
	l := append([]uint64{a, am, b, bm, c, cm}, words...)
	for _, gen := range gens {
		for _, slot := range []int{0, 1, 2, 3, 4, 64, 65, 1 << 30, lastIndex} {
			l = append(l, ref(gen, slot), ref(gen, slot)+1)
		}
	}
	return l
}

// 26.1: the head's way on, and a slot's, whether that was taken or passed over, may be any word: one that is none, with whatever generation and mark, ends the walk, any other one leads on to its slot, which is reached without the mark.
func TestWaysOn(t *testing.T) {
	for _, p := range []api.Plan{flat, small, {Threads: 8, Slots: 64, Levels: 8}, {}} {
		for _, w := range ways() {
			j, r := job{p, 3}, w-w%2
			heads := [][]move{
				j.begin(5, w),
				append(j.begin(5, b), j.gets(b, 4, 9, w)...),
				append(j.begin(5, b), j.weighs(b, 4), j.looks(b, taken(7)), j.leads(b, w)),
				append(j.begin(5, b), j.weighs(b, 4), j.looks(b, live(7)), j.fails(b, taken(7)), j.leads(b, w)),
			}
			for _, l := range heads {
				if w%half < 2 {
					j.whole(t, api.Never, l...)
					continue
				}
				j.whole(t, 6, append(l, j.weighs(r, 6))...)
				j.whole(t, api.Never, slices.Concat(l, j.gets(r, 5, 8, 0))...)
				j.whole(t, api.Never, append(l, j.weighs(r, 5), j.looks(r, 0), j.leads(r, 1))...)
			}
		}
	}
}

// 26.1: a way on that leads to the same slot again, with the mark or without, is gone on with, again and again.
func TestTheSameAgain(t *testing.T) {
	for _, r := range []uint64{2, a, b, ref(lastGen, lastIndex)} {
		j := job{flat, 2000}
		l := j.begin(5, r)
		for n := range uint64(1000) {
			l = append(l, j.weighs(r, 5-n%3), j.looks(r, taken(genOf(r))), j.leads(r, r+n%2))
		}
		j.whole(t, api.Never, append(l, j.gets(r, 5, 1, 1)...)...)
	}
	// In a memory in which a slot leads to itself it goes on for ever, as it is told.
	m := made(t, flat)
	m.Store(7, 2)
	m.Store(8, 2)
	m.Store(14, 3)
	k := Walk(flat, 9)
	if l := task.Play(m, k, 5000); len(l) != 5000 {
		t.Fatalf("it is done behind %d", len(l))
	}
	if l := k.Batch(); !slices.Equal(l, []api.Due{{Handle: 1}}) {
		t.Fatalf("%+v were taken", l)
	}
}

// states are words that are found as a state of a generation: the edges, each status of it, of those beside it and of others, each that is not it by one bit alone, and such that are no state.
func states(gen uint64) []uint64 {
	l := slices.Clone(words)
	for _, g := range append([]uint64{gen, gen - 1, gen + 1}, gens...) {
		for _, status := range []uint64{0, 1, 2, 3, 4, 5, 6, 64, 1 << 31, half - 2, half - 1} {
			l = append(l, g*half+status)
		}
	}
	for bit := range 64 {
		l = append(l, live(gen)^1<<bit)
	}
	return l
}

// 26.1: just what is live, of cur's generation, is tried to be taken; all else is passed over, and not told.
func TestStates(t *testing.T) {
	for _, p := range []api.Plan{flat, small, {Levels: -1}} {
		for _, gen := range append([]uint64{5, 6}, gens...) {
			for _, slot := range []int{1, 2, 3, 65, lastIndex} {
				j, r, lives := job{p, 1}, ref(gen, slot), 0
				for i, w := range states(gen) {
					mark := uint64(i % 2)
					l := append(j.begin(5, r+mark), j.weighs(r, 5), j.looks(r, w))
					if w == gen*half+2 {
						lives++
						j.whole(t, api.Never, append(l, j.takes(r, 5), j.numbers(r, 3), j.leads(r, 0))...)
						continue
					}
					j.whole(t, api.Never, append(l, j.leads(r, mark))...)
				}
				if lives == 0 {
					t.Fatalf("the generation %d never lives", gen)
				}
			}
		}
	}
}

// 26.1: just what the Swap finds live, of cur's generation, it has taken; another one, by whoever it was taken in between, is passed over, and not told.
func TestSwaps(t *testing.T) {
	for _, p := range []api.Plan{flat, small, {Levels: -1}} {
		for _, gen := range append([]uint64{5, 6}, gens...) {
			for _, slot := range []int{1, 2, 3, 65, lastIndex} {
				j, r := job{p, 1}, ref(gen, slot)
				for i, w := range states(gen) {
					l := append(j.begin(5, r), j.weighs(r, 5), j.looks(r, gen*half+2))
					if w == gen*half+2 {
						j.whole(t, api.Never, append(l, j.takes(r, 5), j.numbers(r, 3), j.leads(r, 0))...)
						continue
					}
					j.whole(t, api.Never, append(l, j.fails(r, w), j.leads(r, uint64(i%2)))...)
				}
			}
		}
	}
}

// 26.1 and 26.2: whatever the Load of Seq finds is the number that is told, and it tells 0 ahead of that.
func TestSeqs(t *testing.T) {
	for _, n := range ways() {
		for _, p := range []api.Plan{flat, small, {}} {
			j := job{p, 2}
			l := append(j.begin(5, a), j.gets(a, 4, n, bm)...)
			j.whole(t, 6, append(l, j.weighs(b, 6))...)
			j.whole(t, api.Never, append(l, j.gets(b, 5, n+1, c)...)...)
			// What is passed over behind that turns nothing of it.
			j.whole(t, api.Never, append(l, j.weighs(b, 5), j.looks(b, live(7)), j.fails(b, 0), j.leads(b, 0))...)
		}
	}
}

// 26.2: the handle is the pair of the generation and the index, whatever the mark was.
func TestHandles(t *testing.T) {
	for _, gen := range append([]uint64{3, 1000}, gens...) {
		for _, slot := range []int{1, 2, 3, 64, 65, 1 << 15, 1 << 30, lastIndex - 1, lastIndex} {
			for mark := range uint64(2) {
				k := Walk(flat, 1)
				for _, found := range []uint64{5, gen*half + 2*uint64(slot) + mark, 4, gen*half + 2, gen*half + 2} {
					k.Tell(found)
				}
				g := &walked{k, []api.Due{{Handle: gen*half + uint64(slot), Deadline: 4}}}
				g.tells(t, api.Never)
				k.Tell(9)
				g.told[0].Seq = 9
				g.tells(t, api.Never)
			}
		}
	}
}

// choices are words that may be found at a step of a tale: those that the chapter tells apart, and others.
func (s *tale) choices() []uint64 {
	gen := genOf(s.cur)
	switch s.at {
	case 1:
		return []uint64{0, 5, math.MaxUint64}
	case 2, 8:
		return []uint64{0, 1, a, am, b, 9*half + 1, s.cur}
	case 4:
		return []uint64{word(s.now - 1), word(s.now), word(s.now + 1)}
	case 5, 6:
		return []uint64{live(gen), taken(gen), live(gen + 1)}
	}
	return []uint64{0, 3, math.MaxUint64}
}

// 26.1 and 26.2: whatever of the words that the chapter tells apart is found at each of the first steps, it goes on as the chapter's sentences say.
func TestWhateverIsFound(t *testing.T) {
	for _, count := range []int{-1, 0, 1, 2, math.MaxInt} {
		for _, p := range []api.Plan{{}, flat, small} {
			j := job{p, count}
			var l []uint64
			var fill func()
			fill = func() {
				g := j.pair()
				for _, found := range l {
					g.tell(found)
				}
				if _, more := g.same(t); !more || len(l) == 9 {
					return
				}
				for _, found := range g.slow.choices() {
					l = append(l, found)
					fill()
					l = l[:len(l)-1]
				}
			}
			fill()
		}
	}
}

// anyPlan is a plan of chance, of which a number may be any.
func anyPlan(r *rand.Rand) api.Plan {
	n := func(most int) int {
		if r.Intn(8) == 0 {
			return int(r.Uint64())
		}
		return r.Intn(most+4) - 2
	}
	return api.Plan{Threads: n(8), Slots: n(64), Levels: n(8), Gen: r.Uint64()}
}

// anyRef is a reference of chance, of an edge, with a mark or without, or any word.
func anyRef(r *rand.Rand) uint64 {
	switch r.Intn(4) {
	case 0:
		return r.Uint64()
	case 1:
		return words[r.Intn(len(words))]
	}
	return ref([]uint64{0, 1, uint64(r.Uint32()), lastGen}[r.Intn(4)], r.Intn(70)) + uint64(r.Intn(2))
}

// anyCount is a count of chance, mostly a small one.
func anyCount(r *rand.Rand) int {
	if r.Intn(4) == 0 {
		return counts[r.Intn(len(counts))]
	}
	return r.Intn(12)
}

// luck is what is found at a step of a tale by chance, mostly such that it goes on.
func (s *tale) luck(r *rand.Rand) uint64 {
	some := s.choices()
	switch {
	case r.Intn(20) == 0:
		return anyRef(r)
	case s.at == 1 && r.Intn(4) > 0:
		return 1<<63 - 1 - uint64(r.Intn(9))
	case s.at == 2 || s.at == 8 && r.Intn(6) > 0:
		return ref(uint64(r.Uint32()), 1+r.Intn(70)) + uint64(r.Intn(2))
	case s.at == 4 && r.Intn(8) > 0:
		return uint64(r.Uint32())
	case (s.at == 5 || s.at == 6) && r.Intn(2) == 0:
		return live(genOf(s.cur))
	}
	return some[r.Intn(len(some))]
}

// 26.1 and 26.2: words of chance, of which most are such as the chapter tells apart, of plans and counts of chance.
func TestWordsOfChance(t *testing.T) {
	r := rand.New(rand.NewSource(26))
	full, stopped, ends, under := 0, 0, 0, 0
	for range 20000 {
		g := job{anyPlan(r), anyCount(r)}.pair()
		_, more := g.same(t)
		for n := 0; more && n < 80; n++ {
			g.tell(g.slow.luck(r))
			_, more = g.same(t)
		}
		switch {
		case more:
			under++
		case g.slow.stop != api.Never:
			stopped++
		case len(g.slow.told) >= g.slow.count:
			full++
		default:
			ends++
		}
	}
	if full < 3000 || stopped < 3000 || ends < 3000 || under < 300 {
		t.Errorf("%d have taken all they may, %d were stopped, %d came to the end, and %d were under way still", full, stopped, ends, under)
	}
}

// course is a job that takes two timers.
var course = job{small, 2}

// ran are the steps of the course, with all kinds of deeds, and all that becomes of them.
func ran() []move {
	j := course
	return slices.Concat(
		j.begin(9, am),
		[]move{j.weighs(a, 1), j.looks(a, taken(5)), j.leads(a, b)},
		[]move{j.weighs(b, 2), j.looks(b, live(7)), j.fails(b, taken(7)), j.leads(b, cm)},
		j.gets(c, 3, 30, am),
		[]move{j.weighs(a, 4), j.looks(a, live(6)), j.leads(a, bm)},
		j.gets(b, 9, 20, a))
}

// 26.1: asking changes nothing, however often, be it Next, Batch or Stop: ahead of the first step, at each kind of step, and at the end.
func TestAskingChangesNothing(t *testing.T) {
	for _, end := range []int{api.Never, 10} {
		l := ran()
		if end == 10 {
			l = append(l[:len(l)-5], course.weighs(b, 10))
		}
		g := &walked{k: course.walk()}
		g.tells(t, api.Never)
		for _, s := range l {
			for range 100 {
				g.asks(t, s.asked)
			}
			g.tell(s)
		}
		for range 50 {
			g.ended(t, end)
		}
	}
}

// 26.1: a task is told ahead of being asked, and goes on all the same.
func TestTellAheadOfNext(t *testing.T) {
	l := ran()
	for n := range l {
		g := &walked{k: course.walk()}
		for _, s := range l[:n] {
			g.tell(s)
		}
		g.asks(t, l[n].asked)
	}
	g := &walked{k: course.walk()}
	for _, s := range l {
		g.tell(s)
	}
	g.ended(t, api.Never)
	for _, p := range allPlans() {
		g := &walked{k: Walk(p, 1)}
		g.k.Tell(5)
		g.k.Tell(a)
		g.k.Tell(6)
		g.ended(t, 6)
	}
}

// 26.2: Batch and Stop ahead of the first Next, behind each step without any Next, and at the end.
func TestBatchAndStopAtEachMoment(t *testing.T) {
	g := &walked{k: course.walk()}
	for _, s := range ran() {
		g.tells(t, api.Never)
		g.tell(s)
	}
	g.tells(t, api.Never)
	if want := []api.Due{{Handle: ch, Deadline: 3, Seq: 30}, {Handle: bh, Deadline: 9, Seq: 20}}; !slices.Equal(g.told, want) {
		t.Fatalf("%+v were taken, not %+v", g.told, want)
	}
	g = &walked{k: course.walk()}
	for _, s := range ran()[:14] {
		g.tells(t, api.Never)
		g.tell(s)
	}
	g.k.Tell(10)
	g.tells(t, 10)
	for _, p := range allPlans() {
		g := &walked{k: Walk(p, 5)}
		g.tells(t, api.Never)
		g.k.Tell(3)
		g.tells(t, api.Never)
		g.k.Tell(a)
		g.tells(t, api.Never)
		g.k.Tell(4)
		g.tells(t, 4)
	}
}

// 26.2 and R4: what was told as taken stays as it was, whatever is told later, and whoever writes into it, or behind its end, turns nothing that is told next.
func TestBatchIsNew(t *testing.T) {
	k := course.walk()
	var kept, copies [][]api.Due
	for _, s := range ran() {
		k.Tell(s.found)
		l := k.Batch()
		kept, copies = append(kept, l), append(copies, slices.Clone(l))
	}
	for i, l := range kept {
		if !slices.Equal(l, copies[i]) {
			t.Fatalf("%+v stood behind %d, and is %+v now", copies[i], i, l)
		}
	}
	g := &walked{k: course.walk()}
	for _, s := range ran() {
		g.asks(t, s.asked)
		g.tell(s)
		for range 3 {
			l := g.k.Batch()
			for i := range l {
				l[i] = api.Due{Handle: 1, Deadline: 2, Seq: 3}
			}
			l = l[:cap(l)]
			for i := range l {
				l[i] = api.Due{Handle: 4, Deadline: 5, Seq: 6}
			}
			_ = append(g.k.Batch(), api.Due{Handle: 7})
		}
		g.tells(t, api.Never)
	}
	g.ended(t, api.Never)
	one, two := k.Batch(), k.Batch()
	one[0], one[1] = api.Due{}, api.Due{}
	if !slices.Equal(two, g.told) {
		t.Fatalf("two batches share: %+v", two)
	}
}

// 26.1 and R7: a walker that is nil, or that no call made, is done, stays so, does nothing, and tells nothing, and 0.
func TestTasksThatNoCallMade(t *testing.T) {
	var none *Walker
	for _, k := range []*Walker{none, {}, new(Walker)} {
		g := &walked{k: k}
		g.tells(t, 0)
		g.ended(t, 0)
		for _, w := range words {
			k.Tell(w)
			g.tells(t, 0)
		}
		m := made(t, small)
		m.Store(7, 2)
		m.Store(9, 2)
		was := m.Words()
		if l := task.Play(m, k, 9); len(l) != 0 {
			t.Errorf("%v was found", l)
		}
		stands(t, m, was)
		g.ended(t, 0)
	}
}

// 26.1: each walker goes its own way, of the same job and of others.
func TestTasksAreApart(t *testing.T) {
	x, y, other := &walked{k: course.walk()}, &walked{k: course.walk()}, &walked{k: Walk(flat, 1)}
	for _, s := range ran() {
		x.asks(t, s.asked)
		y.asks(t, read(1, 0))
		other.asks(t, read(1, 0))
		x.tell(s)
	}
	y.goes(t, ran()[:12]...)
	other.goes(t, loads(1, 0, 3), loads(7, 0, b), loads(16, b, 3), loads(15, 0, 7*half+2), takes(15, 7*half+2, bh, 3))
	x.tells(t, api.Never)
	y.goes(t, ran()[12:]...)
	other.goes(t, numbers(17, b, 88), loads(21, b, a))
	x.ended(t, api.Never)
	y.ended(t, api.Never)
	other.ended(t, api.Never)
}

// 26.1: where there is no memory each deed finds 0, so there is nothing.
func TestNoMemory(t *testing.T) {
	for _, m := range []*cells.Cells{nil, new(cells.Cells)} {
		for _, p := range allPlans() {
			for _, count := range counts {
				g := &walked{k: Walk(p, count)}
				if l := task.Play(m, g.k, 99); !slices.Equal(l, []uint64{0, 0}) {
					t.Fatalf("%v was found of no memory", l)
				}
				g.ended(t, api.Never)
			}
			// Told that there is a timer it comes to nothing.
			g := &walked{k: Walk(p, 1)}
			g.k.Tell(0)
			g.k.Tell(2)
			if l := task.Play(m, g.k, 99); !slices.Equal(l, []uint64{0, 0, 0}) {
				t.Fatalf("%v was found of no memory", l)
			}
			g.ended(t, api.Never)
		}
	}
}

// 26.1 and 26.2: of plans that are not right, too, and of memories of any words, the words that there are turn as the steps say, wherever the sums put them.
func TestAnyMemory(t *testing.T) {
	r := rand.New(rand.NewSource(261))
	took, stopped := 0, 0
	for _, p := range allPlans() {
		for range 200 {
			l := make([]uint64, r.Intn(120))
			for at := range l {
				l[at] = ref(uint64(r.Intn(2)), r.Intn(4)) + uint64(r.Intn(8)/7)
				if r.Intn(9) == 0 {
					l[at] = words[r.Intn(len(words))]
				}
			}
			if len(l) > 1 && r.Intn(2) == 0 {
				l[1] = 1<<63 - 1
			}
			m, other, g := memory(t, l), memory(t, l), job{p, anyCount(r)}.pair()
			found, want := task.Play(m, g.fast, 90), task.Play(other, g.slow, 90)
			if !slices.Equal(found, want) {
				t.Fatalf("%v was found, not %v", found, want)
			}
			stands(t, m, other.Words())
			g.same(t)
			took += len(g.slow.told)
			if g.slow.stop != api.Never {
				stopped++
			}
		}
	}
	if took < 500 || stopped < 500 {
		t.Errorf("%d were taken, and %d walkers were stopped", took, stopped)
	}
}

// member is a slot that is in the lowest chain: its reference, its key, its state, and whether its way on is marked.
type member struct {
	ref   uint64
	key   api.Key
	state uint64
	out   bool
}

// lives tells whether a member's timer can be taken.
func (m member) lives() bool { return m.state == live(genOf(m.ref)) }

// less tells whether a key is less than another one, by chapter 3's sentence.
func less(x, y api.Key) bool {
	return x.Deadline < y.Deadline || x.Deadline == y.Deadline && x.Seq < y.Seq
}

// sorted sorts members by their keys, of which none is there twice.
func sorted(l []member) []member {
	slices.SortFunc(l, func(x, y member) int {
		if less(x.key, y.key) {
			return -1
		}
		return 1
	})
	return l
}

// lay lays the lowest chain of sorted members on the words of a plan, the last one of which leads to end.
func lay(stand []uint64, p api.Plan, l []member, end uint64) {
	from, mark := 0, uint64(0)
	for _, m := range l {
		slot := indexOf(m.ref)
		stand[stateAt(p, slot)], stand[deadAt(p, slot)], stand[seqAt(p, slot)] = m.state, word(m.key.Deadline), m.key.Seq
		stand[nextAt(p, from)] = m.ref + mark
		from, mark = slot, 0
		if m.out {
			mark = 1
		}
	}
	stand[nextAt(p, from)] = end + mark
}

// dues are the first live ones of sorted members that are due at a time, as many as there are, and as count says.
func dues(l []member, now, count int) []api.Due {
	var some []api.Due
	for _, m := range l {
		if m.lives() && m.key.Deadline <= now && len(some) < count {
			some = append(some, api.Due{Handle: handleOf(m.ref), Deadline: m.key.Deadline, Seq: m.key.Seq})
		}
	}
	return some
}

// stopper is what stops a walker alone: the first deadline above the time, if fewer than count are due, and there is one; else Never.
func stopper(l []member, now, count int) int {
	if len(dues(l, now, count)) < count {
		for _, m := range l {
			if m.key.Deadline > now {
				return m.key.Deadline
			}
		}
	}
	return api.Never
}

// alone lets a walker go alone where the lowest chain is that of sorted members, and asks whether it takes just the first live ones that are due, as many as there are, and as it may, and turns nothing but their states.
func alone(t *testing.T, p api.Plan, l []member, now, count int, fill func(at int) uint64, end uint64) {
	t.Helper()
	stand := made(t, p).Words()
	for at := range stand {
		stand[at] = fill(at)
	}
	lay(stand, p, l, end)
	stand[1] = word(now)
	m, other, g := memory(t, stand), memory(t, stand), job{p, count}.pair()
	if found, want := task.Play(m, g.fast, 9000), task.Play(other, g.slow, 9000); !slices.Equal(found, want) {
		t.Fatalf("%v was found, not %v", found, want)
	}
	took := &walked{g.fast, dues(l, now, count)}
	took.ended(t, stopper(l, now, count))
	for _, due := range took.told {
		stand[stateAt(p, int(due.Handle%half))] = taken(due.Handle / half)
	}
	stands(t, m, stand)
	stands(t, other, stand)
}

// zero fills a memory with 0.
func zero(int) uint64 { return 0 }

// 26.3: done alone, in all lowest chains of up to three slots, in all their orders, of each state that the chapter tells apart, with ways on with the mark and without, of deadlines that are the same or rise, at each time between, of each count: it takes just the first live ones that are due.
func TestAloneInAllSmallChains(t *testing.T) {
	keys := [][]api.Key{
		{{Deadline: -1, Seq: 9}, {Deadline: 4, Seq: 4}, {Deadline: 4, Seq: 8}},
		{{Deadline: 4, Seq: 0}, {Deadline: 4, Seq: 1}, {Deadline: 6, Seq: 0}},
	}
	for n, order := range [][]int{{}, {1}, {3}, {1, 2}, {3, 1}, {1, 2, 3}, {1, 3, 2}, {2, 1, 3}, {2, 3, 1}, {3, 1, 2}, {3, 2, 1}} {
		most := 1
		for range order {
			most *= 8
		}
		for way := range most {
			l := make([]member, len(order))
			for i, left := 0, way; i < len(l); i, left = i+1, left/8 {
				gen := []uint64{0, 7, lastGen}[(i+n)%3]
				l[i] = member{ref: ref(gen, order[i]), key: keys[n%2][i], out: left%2 == 1}
				l[i].state = []uint64{live(gen), taken(gen), live(gen + 1), gen*half + 1}[left/2%4]
			}
			for _, now := range []int{-2, -1, 3, 4, 5, 6, math.MaxInt} {
				for count := -1; count <= len(order)+1; count++ {
					alone(t, []api.Plan{flat, small}[way%2], l, now, count, zero, 0)
				}
			}
		}
	}
}

// newKey makes a key that none of members has.
func newKey(r *rand.Rand, l []member) api.Key {
	for {
		k := api.Key{Deadline: r.Intn(9) - 4, Seq: uint64(r.Intn(20))}
		if r.Intn(4) == 0 {
			k = api.Key{Deadline: int(words[r.Intn(len(words))]), Seq: words[r.Intn(len(words))]}
		}
		if !slices.ContainsFunc(l, func(m member) bool { return m.key == k }) {
			return k
		}
	}
}

// 26.3: done alone, in chains of chance of all right plans, with none that is live, with some, and with all, whatever stands in all other words: it takes just the first live ones that are due.
func TestAloneInChainsOfChance(t *testing.T) {
	r := rand.New(rand.NewSource(262))
	some, full := 0, 0
	for _, p := range rightPlans() {
		for _, lives := range []int{0, 1, 3, 1 << 30} {
			for range 60 {
				var l []member
				for _, n := range r.Perm(p.Slots) {
					if r.Intn(8) == 0 {
						continue
					}
					gen := []uint64{0, 1, uint64(r.Uint32()), lastGen}[r.Intn(4)]
					m := member{ref: ref(gen, n+1), key: newKey(r, l), out: r.Intn(3) == 0, state: live(gen)}
					if lives == 0 || r.Intn(lives+1) == 0 {
						m.state = []uint64{gen * half, gen*half + 1, taken(gen), gen*half + 4, gen*half + 5, live(gen + 1), live(gen - 1), gen}[r.Intn(8)]
					}
					l = append(l, m)
				}
				now := r.Intn(12) - 6
				if r.Intn(3) == 0 {
					now = int(words[r.Intn(len(words))])
				}
				l = sorted(l)
				count := anyCount(r)
				if r.Intn(2) == 0 {
					count = len(dues(l, now, 99)) + r.Intn(3) - 1
				}
				if n := len(dues(l, now, 99)); n > 0 && n < count {
					some++
				} else if n > 0 && n >= count {
					full++
				}
				alone(t, p, l, now, count, func(int) uint64 { return anyRef(r) }, []uint64{0, uint64(r.Uint32()) * half}[r.Intn(2)])
			}
		}
	}
	if some < 500 || full < 500 {
		t.Errorf("%d have taken all that there were, and %d all they may", some, full)
	}
}

// 26.3: several who go one behind the other take all that are due, each the first ones that are left; then there is none.
func TestOneBehindTheOther(t *testing.T) {
	for _, p := range rightPlans() {
		for _, count := range []int{1, 2, 3, 5, 64} {
			var l []member
			for n := range p.Slots {
				l = append(l, member{ref: ref(p.Gen, p.Slots-n), key: api.Key{Deadline: n / 3, Seq: word(n)}, state: live(p.Gen)})
			}
			stand := made(t, p).Words()
			lay(stand, p, l, 0)
			stand[1] = word(p.Slots / 6)
			m := memory(t, stand)
			want := dues(l, p.Slots/6, 99)
			for range p.Slots + 2 {
				k := Walk(p, count)
				task.Play(m, k, 9000)
				n := min(count, len(want))
				if got := k.Batch(); !slices.Equal(got, want[:n]) {
					t.Fatalf("%+v were taken, not %+v", got, want[:n])
				}
				want = want[n:]
			}
			if len(want) > 0 {
				t.Fatalf("%+v were never taken", want)
			}
		}
	}
}

// started makes a timer, whole (19 to 21), and lets who started it let go of it.
func started(m *cells.Cells, r *rand.Rand, p api.Plan, slot int) member {
	tall := 1 + r.Intn(p.Levels)
	k := mint.Mint(p, slot, r.Intn(9), tall)
	task.Play(m, k, 99)
	n := link.Link(p, k.Ref(), k.Key(), tall)
	task.Play(m, n, 9000)
	m.Store(stateAt(p, slot), live(genOf(k.Ref())))
	task.Play(m, lift.Lift(p, k.Ref(), k.Key(), tall, n.Preds(), n.Succs()), 9000)
	task.Play(m, settle.Settle(p, k.Ref(), k.Key()), 9000)
	return member{ref: k.Ref(), key: k.Key(), state: live(genOf(k.Ref()))}
}

// 26.3: of timers that were started by the tasks of layers 19 to 21, of which some were taken, and of these some went out of all chains (25) and some did not: alone it takes just the first ones that are live and due, at each time.
func TestTimersThatWereStarted(t *testing.T) {
	r := rand.New(rand.NewSource(263))
	for _, p := range rightPlans() {
		m := made(t, p)
		var l []member
		for _, n := range r.Perm(p.Slots) {
			l = append(l, started(m, r, p, n+1))
		}
		l = sorted(l)
		for now := -1; now < 10; now++ {
			m.Store(1, word(now))
			for i := range l {
				if !l[i].lives() || r.Intn(12) > 0 {
					continue
				}
				k := claim.Claim(p, l[i].ref)
				task.Play(m, k, 9)
				l[i].state = taken(genOf(l[i].ref))
				if r.Intn(2) == 0 {
					task.Play(m, finish.Finish(p, l[i].ref, l[i].key), 9000)
				}
			}
			count := 1 + r.Intn(6)
			g := &walked{Walk(p, count), dues(l, now, count)}
			task.Play(m, g.k, 9000)
			for i := range l {
				if slices.ContainsFunc(g.told, func(d api.Due) bool { return d.Handle == handleOf(l[i].ref) }) {
					l[i].state = taken(genOf(l[i].ref))
				}
			}
			if got := g.k.Batch(); !slices.Equal(got, g.told) {
				t.Fatalf("%+v were taken at %d, not %+v", got, now, g.told)
			}
			for _, one := range l {
				if got := m.Load(stateAt(p, indexOf(one.ref))); got != one.state {
					t.Fatalf("the state of %d is %d, not %d", one.ref, got, one.state)
				}
			}
		}
	}
}

// apart asks whether batches tell no timer twice, and each rises by deadline and number; how many there are in all.
func apart(t *testing.T, batches ...[]api.Due) int {
	t.Helper()
	seen := map[uint64]bool{}
	for _, l := range batches {
		for i, d := range l {
			if seen[d.Handle] {
				t.Fatalf("%d was taken twice: %+v", d.Handle, batches)
			}
			seen[d.Handle] = true
			if i > 0 && !less(api.Key{Deadline: l[i-1].Deadline, Seq: l[i-1].Seq}, api.Key{Deadline: d.Deadline, Seq: d.Seq}) {
				t.Fatalf("%+v does not rise", l)
			}
		}
	}
	return len(seen)
}

// 26.1: two who walk where one timer is due, in all orders of their steps: just one takes it, whoever swaps first, and the other one passes it over.
func TestTwoOfOneInAllOrders(t *testing.T) {
	p := api.Plan{Threads: 1, Slots: 1, Levels: 1}
	stand := made(t, p).Words()
	lay(stand, p, []member{{ref: 2, key: api.Key{Deadline: 5, Seq: 3}, state: 2}}, 0)
	stand[1] = 5
	firsts, vain := [2]int{}, 0
	for order := range 1 << 14 {
		m := memory(t, stand)
		now := []pair{job{p, 1}.pair(), job{p, 2}.pair()}
		winner, swaps, left := -1, 0, order
		for n := 0; n < 14; n, left = n+1, left/2 {
			g := now[left%2]
			d, more := g.same(t)
			if !more {
				g = now[1-left%2]
				d, more = g.same(t)
			}
			if !more {
				break
			}
			found := task.Play(m, g.fast, 1)[0]
			g.slow.Tell(found)
			g.same(t)
			if d.Kind == 3 {
				swaps++
				if winner < 0 {
					winner = slices.Index(now, g)
				}
			}
		}
		for i, g := range now {
			if _, more := g.fast.Next(); more {
				t.Fatalf("%d is not done, in the order %d", i, order)
			}
			var want []api.Due
			if i == winner {
				want = []api.Due{{Handle: 1, Deadline: 5, Seq: 3}}
			}
			if got := g.fast.Batch(); !slices.Equal(got, want) {
				t.Fatalf("%+v were taken by %d, not %+v, in the order %d", got, i, want, order)
			}
		}
		firsts[winner]++
		vain += swaps - 1
	}
	if firsts[0] < 1000 || firsts[1] < 1000 || vain < 1000 {
		t.Errorf("%v have won, and %d swapped in vain", firsts, vain)
	}
}

// 26.1: two who walk, and one who claims the timers one by one, in all orders of their first nine turns: each timer is taken once, and each batch rises.
func TestThreeInAllOrders(t *testing.T) {
	stand := made(t, flat).Words()
	l := []member{{ref: b, key: api.Key{Deadline: 4, Seq: 7}, state: live(7)}, {ref: a, key: api.Key{Deadline: 4, Seq: 8}, state: live(5), out: true}, {ref: c, key: api.Key{Deadline: 5, Seq: 0}, state: live(0)}}
	lay(stand, flat, l, 0)
	stand[1] = 5
	vain, late := 0, 0
	for order := range 2 * 19683 {
		m := memory(t, stand)
		now := []*Walker{Walk(flat, 2+order%2), Walk(flat, 3)}
		// The one ahead stands at its first swap, or behind it.
		task.Play(m, now[0], 4+order%3)
		shots := []*claim.Claimer{claim.Claim(flat, c), claim.Claim(flat, b), claim.Claim(flat, a)}
		left, shot := order/2, 0
		for n := 0; n < 9; n, left = n+1, left/3 {
			if who := left % 3; who < 2 {
				task.Play(m, now[who], 1)
			} else if shot < 3 {
				task.Play(m, shots[shot], 1)
				shot++
			}
		}
		for n, more := 0, true; more && n < 99; n++ {
			more = false
			for _, k := range now {
				d, _ := k.Next()
				if f := task.Play(m, k, 1); len(f) > 0 {
					more = true
					if d.Kind == 3 && f[0] != d.A {
						vain++
					}
				}
			}
		}
		first := [][]api.Due{now[0].Batch(), now[1].Batch()}
		for i, k := range shots {
			if k.Won() {
				late++
				first = append(first, []api.Due{{Handle: []uint64{ch, bh, ah}[i]}})
			}
		}
		took := apart(t, first...)
		for _, one := range l {
			if s := m.Load(stateAt(flat, indexOf(one.ref))); s == taken(genOf(one.ref)) {
				took--
			} else if s != live(genOf(one.ref)) {
				t.Fatalf("the state of %d is %d", one.ref, s)
			}
		}
		if took != 0 || len(first[0])+len(first[1])+len(first)-2 != 3 {
			t.Fatalf("%+v were taken, in the order %d", first, order)
		}
	}
	if vain < 1000 || late < 1000 {
		t.Errorf("%d swapped in vain, and %d were claimed", vain, late)
	}
}

// life is a timer's: how it is started, and by whom it was taken.
type life struct {
	task.Flow
	member
	linked bool // whether it is live, and in the lowest chain
	taken  int  // how often
}

// worker is one who goes by turns with others: since when, and what it does; of those that walk their tale, and what was live and due when they had loaded the time.
type worker struct {
	since int
	task  task.Task
	end   func()
	slow  *tale
	found []*life
}

// yard is where timers are started, taken and finished by turns, and slots are handed back as soon as nobody is under way who was so when they were let go of.
type yard struct {
	r     *rand.Rand
	p     api.Plan
	m     *cells.Cells
	turn  int
	now   []*worker
	lives map[uint64]*life // by their handles
	waits [][2]uint64      // references, and since when
	told  int
	again int // how many slots were used again
}

// add lets one more go on.
func (y *yard) add(t task.Task, end func()) *worker {
	w := &worker{since: y.turn, task: t, end: end}
	y.now = append(y.now, w)
	return w
}

// leaver is a task at the end of which somebody lets go of a timer.
type leaver interface {
	task.Task
	Retired() (api.Retired, bool)
}

// leave keeps the slot of a timer that was let go of.
func (y *yard) leave(k leaver) {
	if got, ok := k.Retired(); ok {
		y.waits = append(y.waits, [2]uint64{got.Ref, word(y.turn)})
	}
}

// start lets somebody start a timer in a free slot, if there is one.
func (y *yard) start() {
	free := pool.Pop(y.p)
	task.Play(y.m, free, 9)
	if free.Index() == 0 {
		return
	}
	deadline, tall := int(y.m.Load(1))+y.r.Intn(9)-4, 1+y.r.Intn(y.p.Levels)
	one, k := &life{}, mint.Mint(y.p, free.Index(), deadline, tall)
	var last *settle.Settler
	one.To(k, func() {
		one.ref, one.key = k.Ref(), k.Key()
		y.lives[handleOf(one.ref)] = one
		n := link.Link(y.p, one.ref, one.key, tall)
		living := api.Deed{Kind: 2, At: stateAt(y.p, indexOf(one.ref)), A: live(genOf(one.ref))}
		one.To(n, func() {
			one.To(task.NewScript([]api.Deed{living}), func() {
				one.linked = true
				last = settle.Settle(y.p, one.ref, one.key)
				one.To(lift.Lift(y.p, one.ref, one.key, tall, n.Preds(), n.Succs()), func() { one.To(last, nil) })
			})
		})
	})
	y.add(one, func() { y.leave(last) })
}

// finish lets somebody finish a timer that was taken.
func (y *yard) finish(one *life) {
	k := finish.Finish(y.p, one.ref, one.key)
	y.add(k, func() { y.leave(k) })
}

// claim lets somebody stop a timer.
func (y *yard) claim(one *life) {
	k := claim.Claim(y.p, one.ref)
	y.add(k, func() {
		if k.Won() {
			one.taken++
			y.finish(one)
		}
	})
}

// walk lets somebody take what is due.
func (y *yard) walk(t *testing.T, count int) {
	k := Walk(y.p, count)
	w := y.add(k, nil)
	w.slow = job{y.p, count}.tale()
	w.end = func() {
		l := k.Batch()
		y.told += apart(t, l)
		for _, d := range l {
			one := y.lives[d.Handle]
			if one == nil || one.key != (api.Key{Deadline: d.Deadline, Seq: d.Seq}) || d.Deadline > w.slow.now {
				t.Fatalf("%+v was taken at %d, of %+v", d, w.slow.now, one)
			}
			y.finish(one)
		}
		for _, one := range w.found {
			// Whatever is left over was behind a batch that is full.
			if one.taken == 0 && (len(l) < count || less(one.key, api.Key{Deadline: l[count-1].Deadline, Seq: l[count-1].Seq})) {
				t.Fatalf("%+v was passed over by %+v, of %d", one.member, l, count)
			}
		}
	}
}

// goOn lets one go on by a step.
func (y *yard) goOn(t *testing.T) {
	i := y.r.Intn(len(y.now))
	w := y.now[i]
	if d, more := w.task.Next(); more {
		found := task.Play(y.m, w.task, 1)[0]
		if k, ok := w.task.(*Walker); ok {
			w.slow.Tell(found)
			pair{k, w.slow}.same(t)
			y.follow(t, w, d, found)
		}
	}
	if _, more := w.task.Next(); !more {
		y.now = slices.Delete(y.now, i, i+1)
		w.end()
	}
}

// follow keeps what one who walks has found by a deed.
func (y *yard) follow(t *testing.T, w *worker, d api.Deed, found uint64) {
	t.Helper()
	switch {
	case d.At == 1:
		for _, one := range y.lives {
			if one.linked && one.taken == 0 && one.key.Deadline <= int(found) {
				w.found = append(w.found, one)
			}
		}
	case d.Kind == 3 && found == d.A:
		l := w.slow.told
		one := y.lives[l[len(l)-1].Handle]
		if one == nil || one.taken > 0 {
			t.Fatalf("%+v was taken once more", l)
		}
		one.taken++
	}
}

// back hands back the slots that wait, if nobody is under way who was so when they were let go of.
func (y *yard) back() {
	y.waits = slices.DeleteFunc(y.waits, func(waits [2]uint64) bool {
		for _, w := range y.now {
			if word(w.since) <= waits[1] {
				return false
			}
		}
		task.Play(y.m, give.Give(y.p, waits[0]), 9)
		delete(y.lives, handleOf(waits[0]))
		y.again++
		return true
	})
}

// 26.1 to 26.3: timers that are started, stopped, taken by several who walk, and finished, all by turns, while the time goes on, and slots are used again: each is taken by one at most, and not ahead of its deadline; each batch rises; nothing that was live and due when somebody began is passed over, unless the batch is full of such as are less.
func TestInTurns(t *testing.T) {
	r := rand.New(rand.NewSource(264))
	told, again := 0, 0
	for _, p := range rightPlans() {
		y := &yard{r: r, p: p, m: made(t, p), lives: map[uint64]*life{}}
		y.m.Store(1, 20)
		for y.turn = range 20000 {
			switch n := r.Intn(40); {
			case n < 6 && len(y.now) < 10:
				y.start()
			case n == 6 && len(y.now) < 10:
				y.walk(t, 1+r.Intn(5))
			case n == 7:
				y.m.Store(1, y.m.Load(1)+word(r.Intn(2)))
			case n == 8 && len(y.now) < 10:
				var some []*life
				for _, one := range y.lives {
					if one.linked {
						some = append(some, one)
					}
				}
				if len(some) > 0 {
					slices.SortFunc(some, func(x, y *life) int { return int(x.key.Seq) - int(y.key.Seq) })
					y.claim(some[r.Intn(len(some))])
				}
			case len(y.now) > 0:
				y.goOn(t)
			}
			y.back()
		}
		told, again = told+y.told, again+y.again
	}
	if told < 2000 || again < 2000 {
		t.Errorf("%d were told, and %d slots were used again", told, again)
	}
}

// 26.1: the walker reaches the lowest chain's words alone: in whatever right plan the higher levels have no part in it.
func TestLowestChainAlone(t *testing.T) {
	for _, p := range rightPlans() {
		m := made(t, p)
		for slot := range p.Slots + 1 {
			for level := 1; level < p.Levels; level++ {
				m.Store(plan.Next(p, slot, level), ref(9, 1))
			}
		}
		m.Store(nextAt(p, 0), ref(0, 1))
		m.Store(stateAt(p, 1), live(0))
		m.Store(nextAt(p, 1), 0)
		k := Walk(p, 9)
		if l := task.Play(m, k, 99); !slices.Equal(l, []uint64{0, 2, 0, 2, 2, 0, 0}) {
			t.Fatalf("%v was found in %+v", l, p)
		}
	}
}
