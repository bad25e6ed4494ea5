package finish

import (
	"math"
	"math/rand"
	"slices"
	"testing"

	"sundial/api"
	"sundial/blank"
	"sundial/cells"
	"sundial/lift"
	"sundial/link"
	"sundial/mark"
	"sundial/mint"
	"sundial/plan"
	"sundial/refer"
	"sundial/seek"
	"sundial/settle"
	"sundial/task"
)

// half is how often a lower half goes into a word: a word is its high half times half, and its low half.
const half = 4294967296

// lastGen and lastIndex are the greatest generation and index that a reference has.
const (
	lastGen   = 4294967295
	lastIndex = 2147483647
)

// words are the edges of a word; from 1<<63 on they are ints below 0.
var words = []uint64{0, 1, 2, 3, 4, 5, 7, 8, 9, 64, 128, 131, 1<<31 - 1, 1 << 31, half - 1, half, half + 1, half + 2, 1<<63 - 1, 1 << 63, 1<<63 + 1, 1<<63 + 2, lastGen * half, lastGen*half + 1, lastGen*half + 2, math.MaxUint64 - 1, math.MaxUint64}

// deadlines and seqs are the edges of a key's parts.
var (
	deadlines = []int{math.MinInt, math.MinInt + 1, -api.MaxTime, -2, -1, 0, 1, 2, 5, api.MaxTime, api.Never, math.MaxInt - 1, math.MaxInt}
	seqs      = []uint64{0, 1, 2, 7, half - 1, half, 1<<63 - 1, 1 << 63, 1<<63 + 1, math.MaxUint64 - 1, math.MaxUint64}
)

// flat and small are plans of which the head's ways on stand from 7 on; of flat the slots' words Dead are at 9, 16 and 23, Seq at 10, 17 and 24, Tall at 11, 18 and 25, Hold at 12, 19 and 26, Next at 14, 21 and 28; of small Dead is at 10, 18 and 26, Seq at 11, 19 and 27, Tall at 12, 20 and 28, Hold at 13, 21 and 29, Next from 15, 23 and 31 on.
var (
	flat  = api.Plan{Threads: 1, Slots: 3, Levels: 1}
	small = api.Plan{Threads: 1, Slots: 3, Levels: 2}
)

// a and b are references to the slots 1 and 2, and am and bm those with the mark; mine is one to the slot 3, the timer of which is finished, and minem that with the mark.
const (
	a     = 5*half + 2
	am    = 5*half + 3
	b     = 7*half + 4
	bm    = 7*half + 5
	mine  = 9*half + 6
	minem = 9*half + 7
)

// key is one between all edges.
var key = api.Key{Deadline: 20, Seq: 30}

// rightPlans are such of which each number is the least, one between, or the greatest.
func rightPlans() []api.Plan {
	var l []api.Plan
	for _, threads := range []int{1, 3, 8} {
		for _, slots := range []int{1, 2, 5, 64} {
			for _, levels := range []int{1, 2, 4, 8} {
				l = append(l, api.Plan{Threads: threads, Slots: slots, Levels: levels, Gen: []uint64{0, 1, lastGen}[len(l)%3]})
			}
		}
	}
	return l
}

// wrongPlans are those of which one number alone is none that there is, and those of which several are.
func wrongPlans() []api.Plan {
	l := []api.Plan{{}, {Threads: -1, Slots: -1, Levels: -1}, {Threads: 9, Slots: 65, Levels: 9, Gen: half}, {Threads: math.MaxInt, Slots: math.MaxInt, Levels: math.MaxInt, Gen: math.MaxUint64}, {Threads: math.MinInt, Slots: math.MinInt, Levels: math.MinInt}}
	for _, n := range []int{math.MinInt, math.MinInt + 1, -1<<32 + 2, -64, -1, 0, 9, 65, 1000, 1 << 31, 1<<32 + 2, math.MaxInt - 1, math.MaxInt} {
		l = append(l, api.Plan{Threads: n, Slots: 3, Levels: 3}, api.Plan{Threads: 2, Slots: n, Levels: 3}, api.Plan{Threads: 2, Slots: 3, Levels: n})
	}
	for _, gen := range []uint64{half, half + 1, 1 << 63, math.MaxUint64} {
		l = append(l, api.Plan{Threads: 2, Slots: 3, Levels: 3, Gen: gen})
	}
	return l
}

// allPlans are those that are right, and those that are not.
func allPlans() []api.Plan {
	return append(rightPlans(), wrongPlans()...)
}

// ref puts a reference together.
func ref(gen uint64, index int) uint64 { return gen*half + 2*uint64(index) }

// indexOf tells the index of a reference.
func indexOf(r uint64) int { return int(r % half / 2) }

// word is a number as a word.
func word(n int) uint64 { return uint64(n) }

// firstAt tells where a slot's words begin, by chapter 8's sums; nextAt where its way on at a level stands, the head's of the slot 0; deadAt and seqAt where the timer's deadline and number stand, tallAt its height, and holdAt how many hold it.
func firstAt(p api.Plan, slot int) int { return 4 + 3*p.Threads + p.Levels + (slot-1)*(6+p.Levels) }
func nextAt(p api.Plan, slot, level int) int {
	if slot == 0 {
		return 4 + 3*p.Threads + level
	}
	return firstAt(p, slot) + 6 + level
}
func deadAt(p api.Plan, slot int) int { return firstAt(p, slot) + 1 }
func seqAt(p api.Plan, slot int) int  { return firstAt(p, slot) + 2 }
func tallAt(p api.Plan, slot int) int { return firstAt(p, slot) + 3 }
func holdAt(p api.Plan, slot int) int { return firstAt(p, slot) + 4 }

// Deeds by their kinds, for short: a load, a swap, and the addition that takes one away.
func read(at int, by uint64) api.Deed { return api.Deed{Kind: 1, At: at, By: by} }
func swap(at int, old, w, by uint64) api.Deed {
	return api.Deed{Kind: 3, At: at, A: old, B: w, By: by}
}
func less1(at int, by uint64) api.Deed {
	return api.Deed{Kind: 4, At: at, A: 18446744073709551615, By: by}
}

// epoch is the load of the epoch.
var epoch = api.Deed{Kind: 1, At: 0}

// job is what Finish is asked.
type job struct {
	plan api.Plan
	ref  uint64
	key  api.Key
}

// finish makes the finisher of a job.
func (j job) finish() *Finisher { return Finish(j.plan, j.ref, j.key) }

// levels tells how many levels a job marks, when it finds n as the height.
func (j job) levels(n uint64) int { return max(0, min(int(n), j.plan.Levels)) }

// step is a deed that is asked for, and what is told then.
type step struct {
	asked api.Deed
	found uint64
}

// height is step 1 of a job, which finds n.
func (j job) height(n uint64) step { return step{read(tallAt(j.plan, indexOf(j.ref)), j.ref), n} }

// turned are the steps of Mark, from the level n - 1 down, of ways on that are w.
func (j job) turned(n int, w uint64) []step {
	var l []step
	for h := n - 1; h >= 0; h-- {
		at := nextAt(j.plan, indexOf(j.ref), h)
		l = append(l, step{read(at, j.ref), w}, step{swap(at, w, w+1, j.ref), w})
	}
	return l
}

// hold is the Add of a job, which finds n.
func (j job) hold(n uint64) step { return step{less1(holdAt(j.plan, indexOf(j.ref)), j.ref), n} }

// empty are the steps of a seek that comes upon no slot.
func (j job) empty() []step {
	var l []step
	for n := range max(j.plan.Levels, 0) {
		l = append(l, step{read(nextAt(j.plan, 0, j.plan.Levels-1-n), 0), 0})
	}
	return l
}

// retires asks whether a finisher tells that this is retired, or that nothing is, again and again.
func retires(t *testing.T, k *Finisher, r api.Retired, waits bool) {
	t.Helper()
	for range 2 {
		if got, ok := k.Retired(); got != r || ok != waits {
			t.Fatalf("%+v is retired (%v), not %+v (%v)", got, ok, r, waits)
		}
	}
}

// asks asks whether a finisher asks for d, and tells that nothing is retired, again and again.
func asks(t *testing.T, k *Finisher, d api.Deed) {
	t.Helper()
	for range 3 {
		if got, more := k.Next(); got != d || !more {
			t.Fatalf("%+v is asked for (%v), not %+v", got, more, d)
		}
		retires(t, k, api.Retired{}, false)
	}
}

// ended asks whether a finisher is done, has retired this, or nothing, and stays so whatever it is told.
func ended(t *testing.T, k *Finisher, r api.Retired, waits bool) {
	t.Helper()
	for _, found := range []uint64{0, 1, 2, a, am, 20, 30, 1, 1, math.MaxUint64, 0} {
		if got, more := k.Next(); got != (api.Deed{}) || more {
			t.Fatalf("%+v is asked for (%v) by a task that is done", got, more)
		}
		retires(t, k, r, waits)
		k.Tell(found)
	}
	if got, more := k.Next(); got != (api.Deed{}) || more {
		t.Fatalf("a task that is done went on to %+v (%v)", got, more)
	}
	retires(t, k, r, waits)
}

// goes asks whether a finisher asks for the deeds of l, and has found these then.
func goes(t *testing.T, k *Finisher, l ...step) {
	t.Helper()
	for _, s := range l {
		asks(t, k, s.asked)
		k.Tell(s.found)
	}
}

// keeps asks whether a job's finisher asks for the deeds of l, then lets go of what somebody else holds still, is done then, and has retired nothing.
func keeps(t *testing.T, j job, l ...step) {
	t.Helper()
	k := j.finish()
	goes(t, k, l...)
	goes(t, k, j.hold(2))
	ended(t, k, api.Retired{}, false)
}

// last asks whether a job's finisher, when it has found of what height the timer is, asks for the deeds of marks, then lets go as the last one, asks for those of l, then loads the epoch e, is done then, and has retired the job's slot.
func last(t *testing.T, j job, tall uint64, marks []step, e uint64, l ...step) {
	t.Helper()
	k := j.finish()
	goes(t, k, j.height(tall))
	goes(t, k, marks...)
	goes(t, k, j.hold(1))
	goes(t, k, l...)
	goes(t, k, step{epoch, e})
	ended(t, k, api.Retired{Ref: j.ref, Epoch: e}, true)
}

// low asks the same of a job that finds the height 0, so that it marks nothing.
func low(t *testing.T, j job, e uint64, l ...step) {
	t.Helper()
	last(t, j, 0, nil, e, l...)
}

// At which of the chapter's steps a task is.
const (
	looking  = iota // 1
	marking         // 2
	settling        // 3
	over
)

// tale is the task that a job comes to by the chapter's sentences: its own step, and those of the tasks of layers 22 and 23, which it names.
type tale struct {
	job
	step   int
	mark   *mark.Marker
	settle *settle.Settler
}

// now tells the deed that is asked for, and at which step.
func (s *tale) now() (api.Deed, int) {
	if s.step == looking {
		return s.height(0).asked, looking
	}
	if d, more := s.mark.Next(); more {
		return d, marking
	}
	if d, more := s.settle.Next(); more {
		return d, settling
	}
	return api.Deed{}, over
}

func (s *tale) Next() (api.Deed, bool) {
	d, at := s.now()
	return d, at < over
}

func (s *tale) Tell(found uint64) {
	switch _, at := s.now(); at {
	case looking:
		s.step, s.mark, s.settle = marking, mark.Mark(s.plan, s.ref, int(found)), settle.Settle(s.plan, s.ref, s.key)
	case marking:
		s.mark.Tell(found)
	case settling:
		s.settle.Tell(found)
	}
}

// pair is a finisher under way, and its tale.
type pair struct {
	fast *Finisher
	slow *tale
}

// pair makes the pair of a job.
func (j job) pair() pair { return pair{j.finish(), &tale{job: j}} }

// same asks whether a finisher stands where its tale does, and tells the deed that is asked for, and at which step.
func (g pair) same(t *testing.T) (api.Deed, int) {
	t.Helper()
	want, at := g.slow.now()
	if got, more := g.fast.Next(); got != want || more != (at < over) {
		t.Fatalf("Finish of %+v asks for %+v (%v), not for %+v (at %d)", g.slow.job, got, more, want, at)
	}
	r, waits := g.slow.settle.Retired()
	retires(t, g.fast, r, waits)
	return want, at
}

// tell tells both what was found.
func (g pair) tell(found uint64) {
	g.fast.Tell(found)
	g.slow.Tell(found)
}

// made makes the memory at the beginning of a right plan.
func made(t *testing.T, p api.Plan) *cells.Cells {
	t.Helper()
	c, err := blank.Make(p)
	if err != api.OK {
		t.Fatalf("no memory of %+v: %d", p, err)
	}
	return c
}

// memory makes a memory of words.
func memory(t *testing.T, l []uint64) *cells.Cells {
	t.Helper()
	c, err := cells.Of(l)
	if err != api.OK {
		t.Fatal(err)
	}
	return c
}

// stands asks whether a memory has just these words.
func stands(t *testing.T, c *cells.Cells, l []uint64) {
	t.Helper()
	if got := c.Words(); !slices.Equal(got, l) {
		t.Fatalf("%v stand, not %v", got, l)
	}
}

// row is a list of n words w.
func row(n int, w uint64) []uint64 { return slices.Repeat([]uint64{w}, n) }

// 25.1: the chapter's example, in numbers and done alone: of height 1, which who started it still holds, it takes four steps, which turn two words, and retires nothing.
func TestExample(t *testing.T) {
	keeps(t, job{small, mine, key}, step{read(28, mine), 1}, step{read(31, mine), a}, step{swap(31, a, am, mine), a})
	k := Finish(small, mine, key)
	goes(t, k, step{read(28, mine), 1}, step{read(31, mine), 0}, step{swap(31, 0, 1, mine), 0}, step{less1(29, mine), 2})
	ended(t, k, api.Retired{}, false)
	for _, p := range rightPlans() {
		c, r := made(t, p), ref(p.Gen, p.Slots)
		c.Store(tallAt(p, p.Slots), 1)
		c.Store(holdAt(p, p.Slots), 2)
		stand := c.Words()
		k := Finish(p, r, key)
		if l := task.Play(c, k, 99); !slices.Equal(l, []uint64{1, 0, 0, 2}) {
			t.Fatalf("%v was found of a timer that two hold", l)
		}
		ended(t, k, api.Retired{}, false)
		stand[nextAt(p, p.Slots, 0)], stand[holdAt(p, p.Slots)] = 1, 1
		stands(t, c, stand)
	}
}

// 25.1: the last one, of each height, in numbers and done alone: the height, a load and a swap for each level, the hold, the head's way on at each level, and the epoch.
func TestLast(t *testing.T) {
	k := Finish(small, mine, key)
	goes(t, k, step{read(28, mine), 2},
		step{read(32, mine), b}, step{swap(32, b, bm, mine), b}, step{read(31, mine), a}, step{swap(31, a, am, mine), a},
		step{less1(29, mine), 1}, step{read(8, 0), 0}, step{read(7, 0), 0}, step{epoch, 6})
	ended(t, k, api.Retired{Ref: mine, Epoch: 6}, true)
	for _, p := range rightPlans() {
		for tall := range p.Levels + 1 {
			c, r := made(t, p), ref(p.Gen, p.Slots)
			c.Store(0, 77)
			c.Store(tallAt(p, p.Slots), word(tall))
			c.Store(holdAt(p, p.Slots), 1)
			stand := c.Words()
			k := Finish(p, r, key)
			want := slices.Concat([]uint64{word(tall)}, row(2*tall, 0), []uint64{1}, row(p.Levels, 0), []uint64{77})
			if l := task.Play(c, k, 99); !slices.Equal(l, want) {
				t.Fatalf("%v was found at the beginning of %+v, of the height %d", l, p, tall)
			}
			ended(t, k, api.Retired{Ref: r, Epoch: 77}, true)
			for h := range tall {
				stand[nextAt(p, p.Slots, h)] = 1
			}
			stand[holdAt(p, p.Slots)] = 0
			stands(t, c, stand)
		}
	}
}

// 25.1: each deed in the names of api's, of layer 2 and of layer 8.
func TestDeedsByName(t *testing.T) {
	p := api.Plan{Threads: 2, Slots: 3, Levels: 3, Gen: 9}
	x, y, r := refer.Of(3, 1), refer.Of(4, 3), refer.Of(5, 2)
	k := Finish(p, r, api.Key{Deadline: 8, Seq: 5})
	goes(t, k,
		step{api.Deed{Kind: api.Load, At: plan.Tall(p, 2), By: r}, 2},
		step{api.Deed{Kind: api.Load, At: plan.Next(p, 2, 1), By: r}, x},
		step{api.Deed{Kind: api.Swap, At: plan.Next(p, 2, 1), A: x, B: refer.Mark(x), By: r}, y},
		step{api.Deed{Kind: api.Load, At: plan.Next(p, 2, 1), By: r}, y},
		step{api.Deed{Kind: api.Swap, At: plan.Next(p, 2, 1), A: y, B: refer.Mark(y), By: r}, y},
		step{api.Deed{Kind: api.Load, At: plan.Next(p, 2, 0), By: r}, refer.Mark(0)},
		step{api.Deed{Kind: api.Add, At: plan.Hold(p, 2), A: math.MaxUint64, By: r}, 1},
		step{api.Deed{Kind: api.Load, At: plan.Next(p, 0, 2)}, 0},
		step{api.Deed{Kind: api.Load, At: plan.Next(p, 0, 1)}, r},
		step{api.Deed{Kind: api.Load, At: plan.Next(p, 2, 1), By: r}, refer.Mark(y)},
		step{api.Deed{Kind: api.Swap, At: plan.Next(p, 0, 1), A: r, B: y}, r},
		step{api.Deed{Kind: api.Load, At: plan.Next(p, 3, 1), By: y}, 0},
		step{api.Deed{Kind: api.Load, At: plan.Dead(p, 3), By: y}, 9},
		step{api.Deed{Kind: api.Load, At: plan.Next(p, 0, 0)}, x},
		step{api.Deed{Kind: api.Load, At: plan.Next(p, 1, 0), By: x}, r},
		step{api.Deed{Kind: api.Load, At: plan.Dead(p, 1), By: x}, 8},
		step{api.Deed{Kind: api.Load, At: plan.Seq(p, 1), By: x}, 4},
		step{api.Deed{Kind: api.Load, At: plan.Next(p, 2, 0), By: r}, refer.Mark(0)},
		step{api.Deed{Kind: api.Swap, At: plan.Next(p, 1, 0), A: r, B: 0, By: x}, r},
		step{api.Deed{Kind: api.Load, At: api.AtEpoch}, 4})
	ended(t, k, api.Retired{Ref: r, Epoch: 4}, true)
}

// talls are words that may be found as a height in a plan: the edges, and those around the number of levels.
func talls(p api.Plan) []uint64 {
	return append([]uint64{word(p.Levels - 1), word(p.Levels), word(p.Levels + 1)}, words...)
}

// 25.1: the Load of Tall finds any word: as many levels are marked as that says, as an int, and as the plan has; of none the Add follows at once, and behind the last one, too.
func TestTall(t *testing.T) {
	for _, p := range allPlans() {
		j := job{p, mine, key}
		for _, n := range talls(p) {
			levels := j.levels(n)
			if levels > 100 {
				k := j.finish()
				goes(t, k, j.height(n))
				goes(t, k, step{read(nextAt(p, 3, levels-1), mine), 1}, step{read(nextAt(p, 3, levels-2), mine), 1})
				continue
			}
			marks := j.turned(levels, b)
			keeps(t, j, append([]step{j.height(n)}, marks...)...)
			if p.Levels <= 100 {
				last(t, j, n, marks, n, j.empty()...)
			}
		}
	}
}

// 25.1: a height without a level, 0 or an int below 0, and a plan without levels, whatever it is asked else: the Add is step 2; in a plan without levels the epoch is step 3.
func TestNoLevel(t *testing.T) {
	for _, n := range []uint64{0, 1 << 63, 1<<63 + 1, 1<<63 + half, lastGen * half, lastGen*half + 2, math.MaxUint64 - 7, math.MaxUint64} {
		goes(t, Finish(small, mine, key), step{read(28, mine), n}, step{less1(29, mine), 1}, step{read(8, 0), 0}, step{read(7, 0), 0})
	}
	for _, levels := range []int{0, -1, -2, -9, -1 << 32, -1<<32 + 2, -1 << 62, math.MinInt + 1, math.MinInt} {
		for _, n := range []int{1, 3, 0, -1, math.MaxInt, math.MinInt} {
			p := api.Plan{Threads: n, Slots: n, Levels: levels}
			for _, r := range []uint64{0, 1, a, mine, minem, ref(lastGen, lastIndex), math.MaxUint64} {
				for _, tall := range words {
					last(t, job{p, r, key}, tall, nil, 5)
					keeps(t, job{p, r, key}, job{p, r, key}.height(tall))
				}
			}
		}
	}
	// The words that there are turn as the steps say.
	c := memory(t, []uint64{8, 0, 0, 0, 0, 0, 0, 0, 0, 0, 3, 1})
	k := Finish(api.Plan{Threads: 1, Slots: 3}, ref(4, 1), key)
	if l := task.Play(c, k, 9); !slices.Equal(l, []uint64{3, 1, 8}) {
		t.Fatalf("%v was found of no level", l)
	}
	ended(t, k, api.Retired{Ref: ref(4, 1), Epoch: 8}, true)
	stands(t, c, []uint64{8, 0, 0, 0, 0, 0, 0, 0, 0, 0, 3, 0})
}

// 25.1: of more levels than there may be it marks, and seeks, as many as the plan says.
func TestMoreLevelsThanThereMayBe(t *testing.T) {
	for _, levels := range []int{9, 64, 1000, 30000} {
		j := job{api.Plan{Threads: 1, Slots: 3, Levels: levels}, mine, key}
		last(t, j, word(levels-1), j.turned(levels-1, a), 2, j.empty()...)
		last(t, j, math.MaxInt, j.turned(levels, a), 2, j.empty()...)
	}
}

// 25.1: a reference with or without the mark, of all generations, and of all indexes that there are, be there such a slot or not: its index leads to the words at the places of chapter 8's sums, By it, and it is retired, as it stands; the ways on of the index 0 are the head's.
func TestReferences(t *testing.T) {
	for _, p := range allPlans() {
		for _, gen := range []uint64{0, 1, 1 << 31, lastGen - 1, lastGen} {
			for _, slot := range []int{0, 1, 2, p.Slots, p.Slots + 1, 64, 65, 1 << 30, lastIndex} {
				if slot < 0 || slot > lastIndex {
					continue
				}
				for _, r := range []uint64{ref(gen, slot), ref(gen, slot) + 1} {
					j := job{p, r, key}
					marks := j.turned(j.levels(2), b)
					keeps(t, j, append([]step{j.height(2)}, marks...)...)
					if p.Levels <= 100 {
						last(t, j, 2, marks, gen, j.empty()...)
					}
				}
			}
		}
	}
	for _, r := range words {
		j := job{flat, r, key}
		last(t, j, 9, j.turned(1, r&^1), 7, step{read(7, 0), 0})
	}
}

// someWords are the edges, and references with a mark and without.
func someWords() []uint64 {
	return append([]uint64{a, am, b, bm, mine, minem, 88, ref(lastGen, lastIndex), ref(lastGen, lastIndex) + 1}, words...)
}

// 25.1: the ways on that the steps of Mark load are any words: those without the mark are swapped for the same ones with it, those with the mark are left; then the Add follows.
func TestWaysOn(t *testing.T) {
	for _, high := range someWords() {
		for _, low := range someWords() {
			var marks []step
			for n, w := range []uint64{high, low} {
				marks = append(marks, step{read(32-n, mine), w})
				if w%2 == 0 {
					marks = append(marks, step{swap(32-n, w, w+1, mine), w})
				}
			}
			keeps(t, job{small, mine, key}, append([]step{{read(28, mine), 2}}, marks...)...)
			last(t, job{small, mine, key}, 2, marks, 5, step{read(8, 0), 0}, step{read(7, 0), 0})
		}
	}
}

// 25.1: a Swap of Mark that finds any other word than it asks for is done anew behind a load, again and again, each bit of what was loaded counting; the height is not loaded anew.
func TestMarkThatBeginsAnew(t *testing.T) {
	for _, w := range []uint64{0, 2, a, b, mine, half, ref(lastGen, lastIndex), math.MaxUint64 - 1} {
		others := someWords()
		for bit := range 64 {
			others = append(others, w^1<<bit)
		}
		for _, other := range others {
			if other == w {
				continue
			}
			for h := range 2 {
				at := 31 + h
				fails := []step{{read(at, mine), w}, {swap(at, w, w+1, mine), other}}
				marks := slices.Concat(job{small, mine, key}.turned(2, 88)[:2-2*h], fails, fails, fails)
				below := []step{{read(31, mine), bm}}[:h]
				loaded, swapped := []step{{read(at, mine), other | 1}}, []step{{read(at, mine), w}, {swap(at, w, w+1, mine), w}}
				for _, end := range [][]step{loaded, swapped} {
					keeps(t, job{small, mine, key}, slices.Concat([]step{{read(28, mine), 2}}, marks, end, below)...)
				}
			}
		}
	}
}

// 25.1: the Add finds 0, 2, the greatest word, any other one, or one that is not 1 by one bit alone: it is done, and has retired nothing; of 1 alone it goes on.
func TestHold(t *testing.T) {
	others := append([]uint64{mine, minem, a, half + 1, 1<<63 + 1}, words...)
	for bit := range 64 {
		others = append(others, 1^1<<bit)
	}
	for _, p := range allPlans() {
		j := job{p, mine, key}
		for _, found := range others {
			k := j.finish()
			goes(t, k, j.height(1))
			goes(t, k, j.turned(j.levels(1), 0)...)
			goes(t, k, j.hold(found))
			if found != 1 {
				ended(t, k, api.Retired{}, false)
			} else if p.Levels <= 0 {
				goes(t, k, step{epoch, 9})
				ended(t, k, api.Retired{Ref: mine, Epoch: 9}, true)
			} else {
				asks(t, k, read(nextAt(p, 0, p.Levels-1), 0))
			}
		}
	}
	for _, w := range words {
		c := made(t, small)
		c.Store(29, w)
		stand := c.Words()
		task.Play(c, Finish(small, mine, key), 2)
		stand[29] = w - 1
		stands(t, c, stand)
	}
}

// 25.1: what the last load finds, of any word, is the epoch that is told.
func TestEpochs(t *testing.T) {
	for _, e := range someWords() {
		low(t, job{small, mine, key}, e, step{read(8, 0), 0}, step{read(7, 0), 0})
		low(t, job{api.Plan{}, minem, key}, e)
		c := made(t, small)
		c.Store(0, e)
		c.Store(28, 2)
		c.Store(29, 1)
		k := Finish(small, mine, key)
		task.Play(c, k, 99)
		ended(t, k, api.Retired{Ref: mine, Epoch: e}, true)
	}
}

// 25.1: it is the key that is handed in that is sought: of Deadlines of all edges one that is less is passed, one that is greater is not, and of the same one the Seq is loaded, a number without a sign.
func TestKeys(t *testing.T) {
	for _, mid := range deadlines {
		for _, d := range deadlines {
			j := job{small, mine, api.Key{Deadline: mid, Seq: 30}}
			l := []step{{read(8, 0), a}, {read(16, a), 0}, {read(10, a), word(d)}}
			passed, not := step{read(15, a), 0}, step{read(7, 0), 0}
			switch {
			case d < mid:
				low(t, j, 5, append(l, passed)...)
			case d > mid:
				low(t, j, 5, append(l, not)...)
			default:
				low(t, j, 5, append(l, step{read(11, a), 31}, not)...)
				low(t, j, 5, append(l, step{read(11, a), 30}, not)...)
				low(t, j, 5, append(l, step{read(11, a), 29}, passed)...)
			}
		}
		for _, s := range seqs {
			for _, found := range seqs {
				behind := step{read(7, 0), 0}
				if found < s {
					behind = step{read(15, a), 0}
				}
				low(t, job{small, mine, api.Key{Deadline: mid, Seq: s}}, 5, step{read(8, 0), a}, step{read(16, a), 0}, step{read(10, a), word(mid)}, step{read(11, a), found}, behind)
			}
		}
	}
}

// 25.1: references that the seek finds lead to the words at the places of chapter 8's sums, be there such slots or not.
func TestReferencesOfOthers(t *testing.T) {
	for _, p := range allPlans() {
		if p.Levels <= 0 {
			continue
		}
		top, j := p.Levels-1, job{p, mine, key}
		for _, r := range []uint64{ref(0, 1), ref(1, 2), ref(1<<31, 64), ref(lastGen, 65), ref(0, 1<<30), ref(lastGen, lastIndex)} {
			k, slot := j.finish(), indexOf(r)
			goes(t, k, j.height(0), j.hold(1),
				step{read(nextAt(p, 0, top), 0), r}, step{read(nextAt(p, slot, top), r), b}, step{read(deadAt(p, slot), r), 20}, step{read(seqAt(p, slot), r), 29},
				step{read(nextAt(p, 2, top), b), am}, step{swap(nextAt(p, slot, top), b, a, r), b}, step{read(nextAt(p, 1, top), a), 0})
			asks(t, k, read(deadAt(p, 1), a))
		}
	}
}

// 25.1: the timer itself, and others, are taken out where their ways on are marked: at the beginning, in the middle and at the end of a chain, at each level; what is none, whatever its generation, ends a chain.
func TestTakenOut(t *testing.T) {
	j := job{flat, mine, key}
	low(t, j, 5, step{read(7, 0), mine}, step{read(28, mine), 1}, step{swap(7, mine, 0, 0), mine})
	low(t, j, 5, step{read(7, 0), mine}, step{read(28, mine), am}, step{swap(7, mine, a, 0), mine}, step{read(14, a), 0}, step{read(9, a), 21})
	low(t, j, 5, step{read(7, 0), a}, step{read(14, a), mine}, step{read(9, a), 19}, step{read(28, mine), bm}, step{swap(14, mine, b, a), mine}, step{read(21, b), 0}, step{read(16, b), 21})
	low(t, j, 5, step{read(7, 0), a}, step{read(14, a), bm}, step{swap(7, a, b, 0), a}, step{read(21, b), minem}, step{swap(7, b, mine, 0), b}, step{read(28, mine), 1}, step{swap(7, mine, 0, 0), mine})
	low(t, job{small, mine, key}, 5,
		step{read(8, 0), mine}, step{read(32, mine), bm}, step{swap(8, mine, b, 0), mine}, step{read(24, b), 0}, step{read(18, b), 21},
		step{read(7, 0), a}, step{read(15, a), mine}, step{read(10, a), 20}, step{read(11, a), 29}, step{read(31, mine), bm}, step{swap(15, mine, b, a), mine}, step{read(23, b), 0}, step{read(18, b), 20}, step{read(19, b), 31})
	// Where its own ways on are found without a mark it is left where it stands.
	low(t, j, 5, step{read(7, 0), mine}, step{read(28, mine), 0}, step{read(23, mine), 20}, step{read(24, mine), 30})
	for _, gen := range []uint64{0, 1, 5, 1 << 31, lastGen} {
		none := gen * half
		low(t, j, 5, step{read(7, 0), none})
		low(t, j, 5, step{read(7, 0), a}, step{read(14, a), none}, step{read(9, a), 19})
		low(t, j, 5, step{read(7, 0), mine}, step{read(28, mine), none + 1}, step{swap(7, mine, none, 0), mine})
	}
}

// 25.1: the seek begins anew where the way on of pred is marked, or a Swap finds any other word than it asked for; neither the height, nor the steps of Mark, nor the Add are done anew.
func TestSeekThatBeginsAnew(t *testing.T) {
	j := job{small, mine, key}
	for _, marked := range []uint64{1, am, bm, minem, 3, half + 1, math.MaxUint64} {
		last(t, j, 2, j.turned(2, b), 5,
			step{read(8, 0), marked},
			step{read(8, 0), a}, step{read(16, a), 0}, step{read(10, a), 21},
			step{read(7, 0), marked},
			step{read(8, 0), a}, step{read(16, a), 0}, step{read(10, a), 19},
			step{read(15, a), marked},
			step{read(8, 0), 0}, step{read(7, 0), 0})
	}
	for _, r := range []uint64{2, a, mine, ref(lastGen, lastIndex), ref(0, lastIndex), ref(lastGen, 1)} {
		others := someWords()
		for bit := range 64 {
			others = append(others, r^1<<bit)
		}
		own := nextAt(small, indexOf(r), 1)
		for _, other := range others {
			if other == r {
				continue
			}
			try := []step{{read(8, 0), r}, {read(own, r), bm}, {swap(8, r, b, 0), other}}
			last(t, j, 1, j.turned(1, 0), 5, slices.Concat(try, try, try, []step{{read(8, 0), 0}, {read(7, 0), 0}})...)
			last(t, j, 1, j.turned(1, 0), 5, slices.Concat(try, []step{{read(8, 0), r}, {read(own, r), 1}, {swap(8, r, 0, 0), r}, {read(7, 0), 0}})...)
		}
	}
}

// 25.1: it goes on as long as a Swap of Mark finds another word, or the seek begins anew, again and again, and keeps nothing of that.
func TestAgainAndAgain(t *testing.T) {
	k := Finish(small, mine, key)
	goes(t, k, step{read(28, mine), 1})
	for n := range uint64(5000) {
		w := ref(n, int(n%7))
		goes(t, k, step{read(31, mine), w}, step{swap(31, w, w+1, mine), w + 1 + n%3*half})
	}
	goes(t, k, step{read(31, mine), bm}, step{less1(29, mine), 1})
	for n := range uint64(5000) {
		x, y := ref(n, 1), ref(n+1, 2)
		goes(t, k,
			step{read(8, 0), x}, step{read(16, x), 0}, step{read(10, x), n % 20},
			step{read(15, x), y}, step{read(23, y), n*half + 1}, step{swap(15, y, n*half, x), y + 1 - n%2*2},
			step{read(8, 0), y + 1},
			step{read(8, 0), x}, step{read(16, x), y + 1}, step{swap(8, x, y, 0), n})
	}
	goes(t, k, step{read(8, 0), 0}, step{read(7, 0), 0}, step{epoch, 3})
	ended(t, k, api.Retired{Ref: mine, Epoch: 3}, true)
}

// choices are words that may be found by a job's deed at one of the chapter's steps: those that the chapters tell apart, and others.
func (j job) choices(d api.Deed, at int) []uint64 {
	switch {
	case at == looking:
		return []uint64{0, 1, 2, word(j.plan.Levels + 1), 1 << 63, math.MaxUint64}
	case d.Kind == 4:
		return []uint64{0, 1, 2, 1 + half, math.MaxUint64}
	case d.Kind == 3:
		return []uint64{d.A, d.A + 1, d.B, d.A + 2}
	}
	if slot := indexOf(d.By); at == settling && slot != 0 {
		switch d.At {
		case deadAt(j.plan, slot):
			return []uint64{word(j.key.Deadline - 1), word(j.key.Deadline), word(j.key.Deadline + 1)}
		case seqAt(j.plan, slot):
			return []uint64{j.key.Seq - 1, j.key.Seq, j.key.Seq + 1}
		}
	}
	return []uint64{0, 1, a, bm, j.ref, j.ref ^ 1, 9 * half}
}

// 25.1: whatever of the words that the chapters tell apart is found at each of the first steps, it goes on as the chapter's sentences say.
func TestWhateverIsFound(t *testing.T) {
	for _, p := range []api.Plan{{}, flat, small} {
		for _, r := range []uint64{mine, am} {
			j := job{p, r, key}
			var l []uint64
			var fill func()
			fill = func() {
				g := j.pair()
				for _, found := range l {
					g.tell(found)
				}
				d, at := g.same(t)
				if at == over || len(l) == 6 {
					return
				}
				for _, found := range j.choices(d, at) {
					l = append(l, found)
					fill()
					l = l[:len(l)-1]
				}
			}
			fill()
		}
	}
}

// anyRef is a reference of chance, of an edge, with a mark or without, or any word.
func anyRef(r *rand.Rand) uint64 {
	switch r.Intn(4) {
	case 0:
		return r.Uint64()
	case 1:
		return words[r.Intn(len(words))]
	}
	return ref([]uint64{0, 1, uint64(r.Uint32()), lastGen}[r.Intn(4)], r.Intn(70)) + uint64(r.Intn(2))
}

// anyKey is a key of chance, or of the edges.
func anyKey(r *rand.Rand) api.Key {
	if r.Intn(2) == 0 {
		return api.Key{Deadline: int(r.Uint64()), Seq: r.Uint64()}
	}
	return api.Key{Deadline: deadlines[r.Intn(len(deadlines))], Seq: seqs[r.Intn(len(seqs))]}
}

// luck is what is found by a job's deed by chance, mostly such that it goes on.
func (j job) luck(r *rand.Rand, d api.Deed, at int) uint64 {
	some := j.choices(d, at)
	switch {
	case r.Intn(20) == 0:
		return anyRef(r)
	case d.Kind == 4 && r.Intn(4) > 0:
		return 1
	case d.Kind == 3 && r.Intn(2) == 0:
		return d.A
	case at == settling && r.Intn(3) == 0:
		return 0
	}
	return some[r.Intn(len(some))]
}

// 25.1: words of chance, of which most are such as the chapters tell apart, of all plans, references and keys.
func TestWordsOfChance(t *testing.T) {
	r := rand.New(rand.NewSource(25))
	kept, gone, under := 0, 0, 0
	for _, p := range allPlans() {
		for range 300 {
			j := job{p, anyRef(r), anyKey(r)}
			g := j.pair()
			d, at := g.same(t)
			for n := 0; at < over && n < 80; n++ {
				g.tell(j.luck(r, d, at))
				d, at = g.same(t)
			}
			if _, waits := g.fast.Retired(); waits {
				gone++
			} else if at == over {
				kept++
			} else {
				under++
			}
		}
	}
	if kept < 3000 || gone < 5000 || under < 1000 {
		t.Errorf("%d kept the slot, %d retired it, and %d were under way still", kept, gone, under)
	}
}

// started is a job of two levels, and walked are the steps of it, with all kinds of deeds; gone is what it retires.
var (
	started = job{small, mine, key}
	walked  = []step{
		{read(28, mine), 7},
		{read(32, mine), 0}, {swap(32, 0, 1, mine), a},
		{read(32, mine), a}, {swap(32, a, am, mine), a},
		{read(31, mine), bm},
		{less1(29, mine), 1},
		{read(8, 0), a}, {read(16, a), 0}, {read(10, a), 20}, {read(11, a), 30},
		{read(7, 0), minem},
		{read(8, 0), a}, {read(16, a), 1}, {swap(8, a, 0, 0), a},
		{read(7, 0), mine}, {read(31, mine), bm}, {swap(7, mine, b, 0), mine}, {read(23, b), 0}, {read(18, b), 20}, {read(19, b), 31},
		{epoch, 12},
	}
	gone = api.Retired{Ref: mine, Epoch: 12}
)

// 25.1: asking changes nothing, however often, be it Next or Retired: at each kind of step, and at the end.
func TestAskingChangesNothing(t *testing.T) {
	k := started.finish()
	for _, s := range walked {
		for range 300 {
			asks(t, k, s.asked)
		}
		k.Tell(s.found)
	}
	for range 100 {
		ended(t, k, gone, true)
	}
}

// 25.1: a task is told ahead of being asked, and goes on all the same.
func TestTellAheadOfNext(t *testing.T) {
	for n := range walked {
		k := started.finish()
		for _, s := range walked[:n] {
			k.Tell(s.found)
		}
		asks(t, k, walked[n].asked)
	}
	k := started.finish()
	for _, s := range walked {
		k.Tell(s.found)
	}
	ended(t, k, gone, true)
	k = started.finish()
	k.Tell(0)
	k.Tell(2)
	k.Tell(1)
	ended(t, k, api.Retired{}, false)
}

// 25.1: nothing is retired ahead of the first Next, and behind each step but the last one; as soon as that is told, without any Next, the slot is.
func TestRetiredAtEachMoment(t *testing.T) {
	k := started.finish()
	for _, s := range walked {
		retires(t, k, api.Retired{}, false)
		k.Tell(s.found)
	}
	retires(t, k, gone, true)
	for _, p := range allPlans() {
		k := Finish(p, mine, key)
		retires(t, k, api.Retired{}, false)
		for _, found := range []uint64{0, 1} {
			k.Tell(found)
			retires(t, k, api.Retired{}, false)
		}
		if p.Levels <= 0 {
			k.Tell(3)
			retires(t, k, api.Retired{Ref: mine, Epoch: 3}, true)
		}
	}
}

// 25.1 and R7: a finisher that is nil, or that no call made, is done, stays so, does nothing, and has retired nothing.
func TestTasksThatNoCallMade(t *testing.T) {
	var none *Finisher
	for _, k := range []*Finisher{none, {}, new(Finisher)} {
		retires(t, k, api.Retired{}, false)
		ended(t, k, api.Retired{}, false)
		for _, w := range words {
			k.Tell(w)
			ended(t, k, api.Retired{}, false)
		}
		c := made(t, small)
		was := c.Words()
		if l := task.Play(c, k, 9); len(l) != 0 {
			t.Errorf("%v was found", l)
		}
		stands(t, c, was)
	}
}

// 25.1: each finisher goes its own way, of the same job and of others.
func TestTasksAreApart(t *testing.T) {
	x, y, other := started.finish(), started.finish(), Finish(flat, bm, api.Key{Deadline: 1})
	for _, s := range walked {
		asks(t, x, s.asked)
		asks(t, y, read(28, mine))
		asks(t, other, read(18, bm))
		x.Tell(s.found)
	}
	goes(t, y, walked[:15]...)
	goes(t, other, step{read(18, bm), 0}, step{less1(19, bm), 1}, step{read(7, 0), 0}, step{epoch, 13})
	goes(t, y, step{read(7, 0), 0}, step{epoch, 14})
	ended(t, y, api.Retired{Ref: mine, Epoch: 14}, true)
	ended(t, other, api.Retired{Ref: bm, Epoch: 13}, true)
	ended(t, x, gone, true)
}

// 25.1 and R4: what was told as retired is the asker's own.
func TestRetiredIsNew(t *testing.T) {
	k := started.finish()
	goes(t, k, walked...)
	r, _ := k.Retired()
	r.Ref, r.Epoch = 1, 2
	ended(t, k, gone, true)
}

// 25.1: where there is no memory each deed finds 0, so no level is marked, and nobody is the last one.
func TestNoMemory(t *testing.T) {
	for _, c := range []*cells.Cells{nil, new(cells.Cells)} {
		for _, p := range allPlans() {
			k := Finish(p, mine, key)
			if l := task.Play(c, k, 99); !slices.Equal(l, []uint64{0, 0}) {
				t.Fatalf("%v was found of no memory", l)
			}
			ended(t, k, api.Retired{}, false)
			// Told that it is of the height 1 it marks one level, and told that it is the last one it seeks as many as the plan has.
			j := job{p, mine, key}
			k = j.finish()
			k.Tell(1)
			goes(t, k, j.turned(j.levels(1), 0)...)
			k.Tell(1)
			if p.Levels > 1000 {
				if l := task.Play(c, k, 2000); len(l) != 2000 {
					t.Fatalf("Finish of %+v is done behind %d steps", p, len(l))
				}
				asks(t, k, read(nextAt(p, 0, p.Levels-2001), 0))
				continue
			}
			if l := task.Play(c, k, 2000); !slices.Equal(l, row(max(p.Levels, 0)+1, 0)) {
				t.Fatalf("%v was found of no memory", l)
			}
			ended(t, k, api.Retired{Ref: mine}, true)
		}
	}
}

// 25.1: of plans that are not right, and of memories of any words, the words that there are turn as the steps say, wherever the sums put them.
func TestAnyMemory(t *testing.T) {
	r := rand.New(rand.NewSource(251))
	some := func() uint64 { return ref(uint64(r.Intn(2)), r.Intn(6)) + uint64(r.Intn(8)/7) }
	kept, gone := 0, 0
	for _, p := range allPlans() {
		for range 40 {
			l := make([]uint64, r.Intn(120))
			for at := range l {
				l[at] = some()
				if r.Intn(9) == 0 {
					l[at] = words[r.Intn(len(words))]
				}
			}
			g := job{p, some(), api.Key{Deadline: r.Intn(10), Seq: uint64(r.Intn(10))}}.pair()
			if at := holdAt(p, indexOf(g.slow.ref)); at >= 0 && at < len(l) && r.Intn(4) > 0 {
				l[at] = 1
			}
			c, other := memory(t, l), memory(t, l)
			found, want := task.Play(c, g.fast, 60), task.Play(other, g.slow, 60)
			if !slices.Equal(found, want) {
				t.Fatalf("%v was found, not %v", found, want)
			}
			stands(t, c, other.Words())
			if _, at := g.same(t); at < over {
				continue
			}
			if _, waits := g.fast.Retired(); waits {
				gone++
			} else {
				kept++
			}
		}
	}
	if kept < 500 || gone < 300 {
		t.Errorf("%d kept the slot, and %d retired it", kept, gone)
	}
}

// member is a slot that is in chains: its reference, its key, whether it is in the chain of a level, and whether it is going out of it.
type member struct {
	ref     uint64
	key     api.Key
	in, out [api.MaxLevels]bool
}

// less tells whether a key is less than another one, by chapter 3's sentence.
func less(x, y api.Key) bool {
	return x.Deadline < y.Deadline || x.Deadline == y.Deadline && x.Seq < y.Seq
}

// sorted sorts members by their keys, of which none is there twice.
func sorted(l []member) []member {
	slices.SortFunc(l, func(x, y member) int {
		if less(x.key, y.key) {
			return -1
		}
		return 1
	})
	return l
}

// lay lays the chains of sorted members on the words of a plan, each way on of which the slot is going out of the chain with a mark.
func lay(stand []uint64, p api.Plan, l []member) {
	for _, m := range l {
		stand[deadAt(p, indexOf(m.ref))], stand[seqAt(p, indexOf(m.ref))] = word(m.key.Deadline), m.key.Seq
	}
	for h := range p.Levels {
		from, mark := 0, uint64(0)
		end := member{}
		end.in[h] = true
		for _, m := range append(slices.Clone(l), end) {
			if !m.in[h] {
				continue
			}
			stand[nextAt(p, from, h)] = m.ref + mark
			from, mark = indexOf(m.ref), 0
			if m.out[h] {
				mark = 1
			}
		}
	}
}

// walk tells those that stand in the chain of a level of a memory, from the head on, and which of them are there without a mark.
func walk(t *testing.T, stand []uint64, p api.Plan, level int) (all, staying []uint64) {
	t.Helper()
	w := stand[nextAt(p, 0, level)]
	for n := 0; w%half > 1; n++ {
		if n > p.Slots {
			t.Fatalf("the chain of the level %d does not end", level)
		}
		r := w - w%2
		w = stand[nextAt(p, indexOf(r), level)]
		all = append(all, r)
		if w%2 == 0 {
			staying = append(staying, r)
		}
	}
	return all, staying
}

// rises asks whether the chain of a level of a memory rises.
func rises(t *testing.T, stand []uint64, p api.Plan, level int) {
	t.Helper()
	all, _ := walk(t, stand, p, level)
	keyOf := func(r uint64) api.Key {
		return api.Key{Deadline: int(stand[deadAt(p, indexOf(r))]), Seq: stand[seqAt(p, indexOf(r))]}
	}
	for i := 1; i < len(all); i++ {
		if !less(keyOf(all[i-1]), keyOf(all[i])) {
			t.Fatalf("the chain %v of the level %d does not rise at the place %d", all, level, i)
		}
	}
}

// without asks whether a timer is in no chain of a memory.
func without(t *testing.T, stand []uint64, p api.Plan, r uint64) {
	t.Helper()
	for h := range p.Levels {
		if in, _ := walk(t, stand, p, h); slices.Contains(in, r) {
			t.Fatalf("%d is in the chain %v of the level %d", r, in, h)
		}
	}
}

// alone lets who has taken a timer of a height finish it, alone, behind who started it has let go, where all of l, of which the timer is one, stand in chains, and where the timer's ways on by which it is in no chain are w; and asks whether its slot is retired, in the epoch e, and it is in no chain then, while all others that are in one without a mark are so still, where they were.
func alone(t *testing.T, p api.Plan, own member, tall int, l []member, e, w uint64) {
	t.Helper()
	slot := indexOf(own.ref)
	stand := made(t, p).Words()
	lay(stand, p, l)
	stand[0], stand[tallAt(p, slot)], stand[holdAt(p, slot)] = e, word(tall), 1
	for h := range p.Levels {
		if !own.in[h] {
			stand[nextAt(p, slot, h)] = w
		}
	}
	c, other, g := memory(t, stand), memory(t, stand), job{p, own.ref, own.key}.pair()
	if found, want := task.Play(c, g.fast, 9000), task.Play(other, g.slow, 9000); !slices.Equal(found, want) {
		t.Fatalf("%v was found, not %v", found, want)
	}
	ended(t, g.fast, api.Retired{Ref: own.ref, Epoch: e}, true)
	now := c.Words()
	stands(t, other, now)
	without(t, now, p, own.ref)
	for h := range p.Levels {
		_, was := walk(t, stand, p, h)
		_, is := walk(t, now, p, h)
		if was = slices.DeleteFunc(was, func(r uint64) bool { return r == own.ref }); !slices.Equal(was, is) {
			t.Fatalf("%v are in the chain of the level %d, not %v", is, h, was)
		}
		rises(t, now, p, h)
		// Its own ways on lead where they led, those below its height with the mark.
		way := stand[nextAt(p, slot, h)]
		if h < tall {
			way |= 1
		}
		if got := now[nextAt(p, slot, h)]; got != way {
			t.Fatalf("its way on of the level %d is %d, not %d", h, got, way)
		}
	}
	turned := map[int]bool{holdAt(p, slot): true}
	for n := range p.Slots + 1 {
		for h := range p.Levels {
			turned[nextAt(p, n, h)] = true
		}
	}
	for at := range now {
		if now[at] != stand[at] && !turned[at] {
			t.Fatalf("the word at %d was turned to %d", at, now[at])
		}
	}
	if now[holdAt(p, slot)] != 0 {
		t.Fatalf("%d hold it still", now[holdAt(p, slot)])
	}
}

// 25.2: done alone behind who started the timer has let go, in all chains of three slots and two levels that the chapters tell apart (in each chain, not in it, going out of it), in all their orders, of each of the three, of each height that the chains leave it: it is in no chain then, and its slot is retired.
func TestAloneInAllSmallChains(t *testing.T) {
	keys := []api.Key{{Deadline: -1, Seq: 9}, {Deadline: 4, Seq: 4}, {Deadline: 4, Seq: 8}}
	// Of two levels, from the lower one on: in the chain (1), going out of it (2), or not in it (0). Whoever stays in the higher one stays in the lower one too.
	ways := [][2]int{{0, 0}, {2, 0}, {0, 2}, {2, 2}, {1, 0}, {1, 2}, {1, 1}}
	for _, order := range [][]int{{1, 2, 3}, {1, 3, 2}, {2, 1, 3}, {2, 3, 1}, {3, 1, 2}, {3, 2, 1}} {
		for n := range 343 {
			l := make([]member, 3)
			some := []int{n / 49, n / 7 % 7, n % 7}
			for i, way := range some {
				l[i] = member{ref: ref(uint64(i)*lastGen/2, order[i]), key: keys[i]}
				for h, state := range ways[way] {
					l[i].in[h], l[i].out[h] = state != 0, state == 2
				}
			}
			for i, own := range l {
				for tall := range 4 {
					if own.in[0] && tall < 1 || own.in[1] && tall < 2 || !own.in[0] && tall == 0 {
						continue
					}
					alone(t, small, own, tall, l, words[n%len(words)], someWords()[(n+i)%36])
				}
			}
		}
	}
}

// anyMember is a member of chance, of a slot, below a height in all chains, in some, or in none, of which the ways on are marked in the mean in one of so many cases, from above.
func anyMember(r *rand.Rand, slot, tall, outs int) member {
	m := member{ref: ref([]uint64{0, 1, uint64(r.Uint32()), lastGen}[r.Intn(4)], slot)}
	stay := tall
	if r.Intn(outs) == 0 {
		stay = r.Intn(tall + 1)
	}
	for h := range tall {
		m.out[h] = h >= stay
		m.in[h] = h < stay || r.Intn(3) > 0
	}
	return m
}

// newKey makes a key that none of members has.
func newKey(r *rand.Rand, l []member) api.Key {
	for {
		k := api.Key{Deadline: r.Intn(9) - 4, Seq: uint64(r.Intn(20))}
		if r.Intn(4) == 0 {
			k = anyKey(r)
		}
		if !slices.ContainsFunc(l, func(m member) bool { return m.key == k }) {
			return k
		}
	}
}

// 25.2: done alone behind who started the timer has let go, in chains of chance of all right plans, with no other slot, with one and with many, with none going out, with some, and with all: the timer is in no chain then, and its slot is retired.
func TestAloneInChainsOfChance(t *testing.T) {
	r := rand.New(rand.NewSource(252))
	for _, p := range rightPlans() {
		for _, outs := range []int{1, 2, 5, 1 << 30} {
			for range 12 {
				slot, tall := 1+r.Intn(p.Slots), 1+r.Intn(p.Levels)
				var l []member
				var own member
				for n := 1; n <= p.Slots; n++ {
					m := anyMember(r, n, 1+r.Intn(p.Levels), outs)
					if n == slot {
						m = anyMember(r, n, tall, outs)
					} else if r.Intn(8) == 0 {
						continue
					}
					m.key = newKey(r, l)
					if l = append(l, m); n == slot {
						own = m
					}
				}
				// A height above the plan's levels is as good as the highest one.
				if tall == p.Levels {
					tall += r.Intn(3)
				}
				alone(t, p, own, tall, sorted(l), words[r.Intn(len(words))], anyRef(r))
			}
		}
	}
}

// 25.2: behind a timer's whole start (19 to 21), and behind who started it has let go (23), alone: the timer is in all chains below its height, and, as soon as it is finished, in none, while all others are where they were, till all are out.
func TestStartedAndFinished(t *testing.T) {
	r := rand.New(rand.NewSource(253))
	for _, p := range rightPlans() {
		c := made(t, p)
		var l []*life
		for _, n := range r.Perm(p.Slots) {
			one := start(c, r, p, n+1)
			task.Play(c, one.holders[0].who, 9000)
			l = append(l, one)
		}
		for len(l) > 0 {
			i := r.Intn(len(l))
			one := l[i]
			stand := c.Words()
			k := one.job.finish()
			task.Play(c, k, 9000)
			ended(t, k, api.Retired{Ref: one.job.ref, Epoch: 1}, true)
			for h := range p.Levels {
				was, _ := walk(t, stand, p, h)
				if slices.Contains(was, one.job.ref) != (h < one.tall) {
					t.Fatalf("%d, of the height %d, is in the chain %v of the level %d", one.job.ref, one.tall, was, h)
				}
				was = slices.DeleteFunc(was, func(r uint64) bool { return r == one.job.ref })
				if is, staying := walk(t, c.Words(), p, h); !slices.Equal(is, was) || !slices.Equal(staying, was) {
					t.Fatalf("%v are in the chain of the level %d, not %v", is, h, was)
				}
			}
			l = slices.Delete(l, i, i+1)
		}
	}
}

// 25.2: several who let go of one timer, one behind the other: each but the last one retires nothing, and leaves the timer where it stands, marked; the last one, and none behind it, retires the slot, in the epoch that it finds, and the timer is in no chain then.
func TestOneBehindTheOther(t *testing.T) {
	for _, p := range rightPlans() {
		for holders := range uint64(5) {
			c, r, tall := made(t, p), ref(p.Gen, p.Slots), 1+int(holders)%p.Levels
			c.Store(tallAt(p, p.Slots), word(tall))
			c.Store(holdAt(p, p.Slots), holders)
			for h := range tall {
				c.Store(nextAt(p, 0, h), r)
			}
			for n := range holders + 3 {
				c.Store(0, 40+n)
				k := Finish(p, r, key)
				found := task.Play(c, k, 99)
				if n+1 == holders {
					ended(t, k, api.Retired{Ref: r, Epoch: 40 + n}, true)
					without(t, c.Words(), p, r)
					continue
				}
				ended(t, k, api.Retired{}, false)
				marks := row(tall, 1)
				if n == 0 {
					marks = row(2*tall, 0)
				}
				if want := slices.Concat([]uint64{word(tall)}, marks, []uint64{holders - n}); !slices.Equal(found, want) {
					t.Fatalf("%v was found by the one behind %d, of %d, not %v", found, n, holders, want)
				}
				for h := range tall {
					if in, staying := walk(t, c.Words(), p, h); n+1 < holders && (!slices.Equal(in, []uint64{r}) || len(staying) > 0) {
						t.Fatalf("%v are in the chain of the level %d, %v of them without a mark", in, h, staying)
					}
				}
			}
		}
	}
}

// leaver is a task at the end of which somebody lets go of a timer.
type leaver interface {
	task.Task
	Retired() (api.Retired, bool)
}

// starter is who started a timer: it brings it into the chains, and lets go of it.
type starter struct {
	task.Flow
	last *settle.Settler
}

// newStarter makes the starter of a job.
func newStarter(j job) *starter { return &starter{last: settle.Settle(j.plan, j.ref, j.key)} }

// rise lets the starter bring its timer into the higher chains, and let go of it.
func (s *starter) rise(l *lift.Lifter) { s.To(l, func() { s.To(s.last, nil) }) }

func (s *starter) Retired() (api.Retired, bool) { return s.last.Retired() }

// holder is one who holds a timer: what it does, and its tale, if it is a finisher.
type holder struct {
	life  *life
	who   leaver
	slow  *tale
	found uint64 // by its Add
}

// newHolder makes the holder who finishes a job.
func newHolder(j job) *holder {
	g := j.pair()
	return &holder{who: g.fast, slow: g.slow}
}

// step lets the holder do one step, a finisher being held against its tale, and tells whether it is done.
func (g *holder) step(t *testing.T, c *cells.Cells) bool {
	t.Helper()
	d, more := g.who.Next()
	if !more {
		return true
	}
	l := task.Play(c, g.who, 1)
	if d.Kind == 4 {
		g.found = l[0]
	}
	if fast, ok := g.who.(*Finisher); ok {
		if want, _ := g.slow.Next(); d != want {
			t.Fatalf("%+v is asked for, not %+v", d, want)
		}
		g.slow.Tell(l[0])
		pair{fast, g.slow}.same(t)
	}
	_, more = g.who.Next()
	return !more
}

// 25.2: two who let go of one timer, and somebody who passes, in all orders of their first steps, while the epoch goes on: one who has taken it, and who started it, which has not brought it into the higher chain yet, or one who has taken it and another one. Just the one that finds 1, which is the one behind, retires the slot, in the epoch that it found at its end; the timer is in no chain from then on, and the others are where they were.
func TestTwoInAllOrders(t *testing.T) {
	var first [2]int
	j, orders := job{small, mine, key}, 19683
	stand := made(t, small).Words()
	l := []member{{ref: a, key: api.Key{Deadline: 10}}, {ref: mine, key: key}, {ref: b, key: api.Key{Deadline: 20, Seq: 31}}}
	for i := range l {
		l[i].in[0], l[i].in[1] = true, i != 1
	}
	lay(stand, small, l)
	stand[28], stand[29] = 2, 2
	for n := range 2 * orders {
		s := newStarter(j)
		s.rise(lift.Lift(small, mine, key, 2, []uint64{a, a}, []uint64{b, b}))
		now := []*holder{newHolder(j), {who: s}}
		if n >= orders {
			now[1] = newHolder(j)
		}
		c, other := memory(t, stand), seek.Seek(small, api.Key{Deadline: 30})
		left, retired := n%orders, 0
		var done [2]bool
		for at := 0; at < 9 || !done[0] || !done[1]; at++ {
			c.Store(0, word(at))
			who := left % 3
			left /= 3
			if at >= 9 {
				who = at % 2
			}
			if who == 2 {
				task.Play(c, other, 1)
			} else if !done[who] {
				done[who] = now[who].step(t, c)
				r, waits := now[who].who.Retired()
				if waits != (done[who] && now[who].found == 1) || waits && r != (api.Retired{Ref: mine, Epoch: word(at)}) {
					t.Fatalf("%+v is retired (%v) at %d, in the order %d", r, waits, at, n)
				}
				if waits {
					retired++
				}
			}
			if retired > 0 {
				without(t, c.Words(), small, mine)
			}
		}
		if retired != 1 || now[0].found+now[1].found != 3 {
			t.Fatalf("it is retired %d times, in the order %d", retired, n)
		}
		if now[0].found == 1 {
			first[n/orders]++
		}
		for h := range 2 {
			if in, staying := walk(t, c.Words(), small, h); !slices.Equal(in, []uint64{a, b}) || len(staying) != 2 {
				t.Fatalf("%v are in the chain of the level %d, in the order %d", in, h, n)
			}
		}
	}
	for _, n := range first {
		if n < 1000 || n > orders-1000 {
			t.Errorf("one of the two retired it %d times of %d", first, orders)
		}
	}
}

// life is a timer's, and those who hold it: who started it, and who takes it.
type life struct {
	job     job
	tall    int
	linked  bool // whether it is in the lowest chain
	holders []*holder
	retired int // how often it was
}

// start makes a timer in a slot, and lets it be brought into the chains.
func start(c *cells.Cells, r *rand.Rand, p api.Plan, slot int) *life {
	tall := 1 + r.Intn(p.Levels)
	m := mint.Mint(p, slot, r.Intn(9), tall)
	task.Play(c, m, 99)
	one := &life{job: job{p, m.Ref(), m.Key()}, tall: tall}
	s, k := newStarter(one.job), link.Link(p, m.Ref(), m.Key(), tall)
	s.To(k, func() {
		one.linked = true
		s.rise(lift.Lift(p, m.Ref(), m.Key(), tall, k.Preds(), k.Succs()))
	})
	one.holders = []*holder{{life: one, who: s}}
	return one
}

// take lets somebody take a timer.
func (one *life) take() *holder {
	g := newHolder(one.job)
	g.life = one
	one.holders = append(one.holders, g)
	return g
}

// 25.2: timers that are started, and of which some are taken as soon as they are in the lowest chain, or later, all by turns: each slot that both have let go of is retired once, by the last one, and its timer is in no chain from then on; of each other one the hold is 1, and it is in all chains below its height.
func TestInTurns(t *testing.T) {
	r := rand.New(rand.NewSource(254))
	starters, takers := 0, 0
	for _, p := range rightPlans() {
		for range 4 {
			c := made(t, p)
			var all []*life
			var now []*holder
			for len(all) < p.Slots || len(now) > 0 {
				if len(all) < p.Slots && r.Intn(10) == 0 {
					one := start(c, r, p, len(all)+1)
					all, now = append(all, one), append(now, one.holders...)
				}
				if len(all) > 0 && r.Intn(15) == 0 {
					if one := all[r.Intn(len(all))]; one.linked && len(one.holders) == 1 {
						now = append(now, one.take())
					}
				}
				if len(now) == 0 {
					continue
				}
				i := r.Intn(len(now))
				g := now[i]
				if !g.step(t, c) {
					continue
				}
				now = slices.Delete(now, i, i+1)
				if got, waits := g.who.Retired(); waits != (g.found == 1) {
					t.Fatalf("one who found %d retires %+v (%v)", g.found, got, waits)
				} else if waits {
					g.life.retired++
					if g.slow == nil {
						starters++
					} else {
						takers++
					}
				}
				for _, one := range all {
					if one.retired > 0 {
						without(t, c.Words(), p, one.job.ref)
					}
				}
			}
			stayed(t, c.Words(), p, all)
		}
	}
	if starters < 100 || takers < 100 {
		t.Errorf("%d starters and %d takers were the last ones", starters, takers)
	}
}

// stayed asks whether of all timers those that were taken are retired once, and just the others are in the chains, without a mark, each in those below its height, and held by one.
func stayed(t *testing.T, stand []uint64, p api.Plan, all []*life) {
	t.Helper()
	for _, one := range all {
		taken := len(one.holders) - 1
		if hold := int(stand[holdAt(p, indexOf(one.job.ref))]); one.retired != taken || hold != 1-taken {
			t.Fatalf("%d, of which %d were let go, is retired %d times, and held by %d", one.job.ref, taken, one.retired, hold)
		}
	}
	for h := range p.Levels {
		var want []uint64
		for _, one := range all {
			if len(one.holders) == 1 && h < one.tall {
				want = append(want, one.job.ref)
			}
		}
		in, staying := walk(t, stand, p, h)
		if len(in) != len(staying) {
			t.Fatalf("%v are in the chain of the level %d, %v of them without a mark", in, h, staying)
		}
		slices.Sort(in)
		slices.Sort(want)
		if !slices.Equal(in, want) {
			t.Fatalf("%v are in the chain of the level %d, not %v", in, h, want)
		}
		rises(t, stand, p, h)
	}
}
