package lift

import (
	"math"
	"math/rand"
	"slices"
	"testing"

	"sundial/api"
	"sundial/blank"
	"sundial/cells"
	"sundial/link"
	"sundial/mint"
	"sundial/plan"
	"sundial/refer"
	"sundial/task"
)

// half is how often a lower half goes into a word: a word is its high half times half, and its low half.
const half = 4294967296

// lastGen and lastIndex are the greatest generation and index that a reference has.
const (
	lastGen   = 4294967295
	lastIndex = 2147483647
)

// words are the edges of a word.
var words = []uint64{0, 1, 2, 3, 4, 5, 6, 7, 128, 129, 130, 131, 1<<31 - 1, 1 << 31, half - 2, half - 1, half, half + 1, half + 2, half + 3, 1<<63 - 1, 1 << 63, 1<<63 + 1, 1<<63 + 2, lastGen * half, lastGen*half + 1, lastGen*half + 2, math.MaxUint64 - 1, math.MaxUint64}

// deadlines and seqs are the edges of a key's parts, and talls those of a height.
var (
	deadlines = []int{math.MinInt, math.MinInt + 1, -api.MaxTime, -2, -1, 0, 1, 2, 5, api.MaxTime, api.Never, math.MaxInt - 1, math.MaxInt}
	seqs      = []uint64{0, 1, 2, 7, half - 1, half, 1<<63 - 1, 1 << 63, 1<<63 + 1, math.MaxUint64 - 1, math.MaxUint64}
	talls     = []int{math.MinInt, math.MinInt + 1, -1 << 32, -1<<32 + 1, -8, -1, 0, 1, 2, 3, 4, 7, 8, 9, 64, 1 << 32, 1<<32 + 1, math.MaxInt - 1, math.MaxInt}
)

// small and three are plans of which the head's ways on stand from 7 on; of small the slots' words Dead are at 10, 18 and 26, Seq at 11, 19 and 27, Next from 15, 23 and 31 on; of three Dead is at 11, 20 and 29, Seq at 12, 21 and 30, Next from 16, 25 and 34 on.
var (
	small = api.Plan{Threads: 1, Slots: 3, Levels: 2}
	three = api.Plan{Threads: 1, Slots: 3, Levels: 3}
)

// a and b are references to the slots 1 and 2, and am and bm those with the mark; mine is one to the slot 3, which is brought into the chains.
const (
	a    = 5*half + 2
	am   = 5*half + 3
	b    = 7*half + 4
	bm   = 7*half + 5
	mine = 9*half + 6
)

// key is one between all edges.
var key = api.Key{Deadline: 20, Seq: 30}

// rightPlans are such of which each number is the least, one between, or the greatest.
func rightPlans() []api.Plan {
	var l []api.Plan
	for _, threads := range []int{1, 3, 8} {
		for _, slots := range []int{1, 2, 5, 64} {
			for _, levels := range []int{1, 2, 4, 8} {
				l = append(l, api.Plan{Threads: threads, Slots: slots, Levels: levels, Gen: []uint64{0, 1, lastGen}[len(l)%3]})
			}
		}
	}
	return l
}

// wrongPlans are those of which one number alone is none that there is, and those of which several are.
func wrongPlans() []api.Plan {
	l := []api.Plan{{}, {Threads: -1, Slots: -1, Levels: -1}, {Threads: 9, Slots: 65, Levels: 9, Gen: half}, {Threads: math.MaxInt, Slots: math.MaxInt, Levels: math.MaxInt, Gen: math.MaxUint64}, {Threads: math.MinInt, Slots: math.MinInt, Levels: math.MinInt}}
	for _, n := range []int{math.MinInt, math.MinInt + 1, -1<<32 + 2, -64, -1, 0, 9, 65, 1000, 1 << 31, 1<<32 + 2, math.MaxInt - 1, math.MaxInt} {
		l = append(l, api.Plan{Threads: n, Slots: 3, Levels: 3}, api.Plan{Threads: 2, Slots: n, Levels: 3}, api.Plan{Threads: 2, Slots: 3, Levels: n})
	}
	for _, gen := range []uint64{half, half + 1, 1 << 63, math.MaxUint64} {
		l = append(l, api.Plan{Threads: 2, Slots: 3, Levels: 3, Gen: gen})
	}
	return l
}

// allPlans are those that are right, and those that are not.
func allPlans() []api.Plan {
	return append(rightPlans(), wrongPlans()...)
}

// ref puts a reference together.
func ref(gen uint64, index int) uint64 { return gen*half + 2*uint64(index) }

// indexOf tells the index of a reference.
func indexOf(r uint64) int { return int(r % half / 2) }

// firstAt tells where a slot's words begin, by chapter 8's sums; nextAt where its way on at a level stands, the head's of the slot 0; deadAt and seqAt where the timer's deadline and number stand.
func firstAt(p api.Plan, slot int) int { return 4 + 3*p.Threads + p.Levels + (slot-1)*(6+p.Levels) }
func nextAt(p api.Plan, slot, level int) int {
	if slot == 0 {
		return 4 + 3*p.Threads + level
	}
	return firstAt(p, slot) + 6 + level
}
func deadAt(p api.Plan, slot int) int { return firstAt(p, slot) + 1 }
func seqAt(p api.Plan, slot int) int  { return firstAt(p, slot) + 2 }

// Deeds by their kinds, for short.
func read(at int, by uint64) api.Deed     { return api.Deed{Kind: 1, At: at, By: by} }
func store(at int, w, by uint64) api.Deed { return api.Deed{Kind: 2, At: at, A: w, By: by} }
func swap(at int, old, w, by uint64) api.Deed {
	return api.Deed{Kind: 3, At: at, A: old, B: w, By: by}
}

// job is what Lift is asked.
type job struct {
	plan         api.Plan
	ref          uint64
	key          api.Key
	tall         int
	preds, succs []uint64
}

// lift makes the lifter of a job.
func (j job) lift() *Lifter { return Lift(j.plan, j.ref, j.key, j.tall, j.preds, j.succs) }

// less tells whether a key is less than another one, by chapter 3's sentence.
func less(x, y api.Key) bool {
	return x.Deadline < y.Deadline || x.Deadline == y.Deadline && x.Seq < y.Seq
}

// seekOf tells by chapter 18's sentences what Seek of p and k finds, each deed being done by ask; false, if that does no more.
func seekOf(p api.Plan, k api.Key, ask func(api.Deed) (uint64, bool)) (preds, succs []uint64, ok bool) {
	var w, n, d, s, pred, cur, succ uint64
	var h int
	var smaller bool
one:
	pred, h, preds, succs = 0, p.Levels-1, nil, nil
two:
	if w, ok = ask(read(nextAt(p, indexOf(pred), h), pred)); !ok {
		return nil, nil, false
	}
	if w%2 == 1 {
		goto one
	}
	cur = w
three:
	if indexOf(cur) == 0 {
		succ = 0
		goto seven
	}
	if n, ok = ask(read(nextAt(p, indexOf(cur), h), cur)); !ok {
		return nil, nil, false
	}
	if n%2 == 1 {
		if w, ok = ask(swap(nextAt(p, indexOf(pred), h), cur, n-1, pred)); !ok {
			return nil, nil, false
		}
		if w != cur {
			goto one
		}
		cur = n - 1
		goto three
	}
	if d, ok = ask(read(deadAt(p, indexOf(cur)), cur)); !ok {
		return nil, nil, false
	}
	smaller = int(d) < k.Deadline
	if int(d) == k.Deadline {
		if s, ok = ask(read(seqAt(p, indexOf(cur)), cur)); !ok {
			return nil, nil, false
		}
		smaller = s < k.Seq
	}
	if smaller {
		pred, cur = cur, n
		goto three
	}
	succ = cur
seven:
	preds, succs = append([]uint64{pred}, preds...), append([]uint64{succ}, succs...)
	if h > 0 {
		h--
		goto two
	}
	return preds, succs, true
}

// What a deed of a tale is for.
const (
	loading = iota // step 1
	turning        // step 2
	hanging        // the Swap of step 3
	seeking        // the steps of Seek
)

// tale is what a Lift comes to by the chapter's sentences.
type tale struct {
	asked []api.Deed // one behind the other; the last one is asked for still, if it is not over
	what  int        // for what the last one is
	over  bool       // whether it is done
	level int        // at which it is
	into  []int      // the levels into whose chains the timer came
	again int        // how often it sought
}

// tale tells by the chapter's sentences what a job comes to, when it is told l.
func (j job) tale(l []uint64) (out tale) {
	told := 0
	ask := func(what int, d api.Deed) (uint64, bool) {
		out.what = what
		out.asked = append(out.asked, d)
		if told == len(l) {
			return 0, false
		}
		told++
		return l[told-1], true
	}
	sought := func(d api.Deed) (uint64, bool) { return ask(seeking, d) }
	preds, succs := j.preds, j.succs
	h := 1
	for h < j.tall && h < len(preds) && h < len(succs) {
		out.level = h
		own := nextAt(j.plan, indexOf(j.ref), h)
		w, ok := ask(loading, read(own, j.ref))
		if !ok {
			return out
		}
		if w%2 == 1 {
			break
		}
		if w != succs[h] {
			found, ok := ask(turning, swap(own, w, succs[h], j.ref))
			if !ok {
				return out
			}
			if found != w {
				break
			}
		}
		found, ok := ask(hanging, swap(nextAt(j.plan, indexOf(preds[h]), h), succs[h], j.ref, preds[h]))
		if !ok {
			return out
		}
		if found == succs[h] {
			out.into = append(out.into, h)
			h++
			continue
		}
		out.again++
		preds, succs = nil, nil
		if j.plan.Levels > 0 {
			if preds, succs, ok = seekOf(j.plan, j.key, sought); !ok {
				return out
			}
		}
	}
	out.over = true
	return out
}

// slow does a deed of chapter 7 to words, and tells what was found.
func slow(stand []uint64, d api.Deed) uint64 {
	if d.At < 0 || d.At >= len(stand) {
		return 0
	}
	was := stand[d.At]
	switch {
	case d.Kind == 2:
		stand[d.At] = d.A
	case d.Kind == 3 && was == d.A:
		stand[d.At] = d.B
	}
	return was
}

// played tells by the chapter's sentences what a job finds, done alone to words, which are turned; false, if it is not done behind so many steps.
func (j job) played(stand []uint64, most int) ([]uint64, bool) {
	var found []uint64
	for range most {
		now := j.tale(found)
		if now.over {
			return found, true
		}
		found = append(found, slow(stand, now.asked[len(now.asked)-1]))
	}
	return found, j.tale(found).over
}

// asks asks whether a lifter asks for d, again and again.
func asks(t *testing.T, k *Lifter, d api.Deed) {
	t.Helper()
	for range 3 {
		if got, more := k.Next(); got != d || !more {
			t.Fatalf("%+v is asked for (%v), not %+v", got, more, d)
		}
	}
}

// ended asks whether a lifter is done, and stays so whatever it is told.
func ended(t *testing.T, k *Lifter) {
	t.Helper()
	for _, found := range []uint64{0, 1, a, am, 20, 30, math.MaxUint64, 0} {
		if got, more := k.Next(); got != (api.Deed{}) || more {
			t.Fatalf("%+v is asked for (%v) by a task that is done", got, more)
		}
		k.Tell(found)
	}
	if got, more := k.Next(); got != (api.Deed{}) || more {
		t.Fatalf("a task that is done went on to %+v (%v)", got, more)
	}
}

// step is a deed that is asked for, and what is told then.
type step struct {
	asked api.Deed
	found uint64
}

// goes asks whether a lifter asks for the deeds of l, and has found these then.
func goes(t *testing.T, k *Lifter, l []step) {
	t.Helper()
	for _, s := range l {
		asks(t, k, s.asked)
		k.Tell(s.found)
	}
}

// lifts asks whether a job's lifter asks for the deeds of l, and is done then.
func lifts(t *testing.T, j job, l ...step) {
	t.Helper()
	k := j.lift()
	goes(t, k, l)
	ended(t, k)
}

// same asks whether a job's lifter that was told l stands where the chapter's sentences say.
func same(t *testing.T, k *Lifter, j job, l []uint64) tale {
	t.Helper()
	want := j.tale(l)
	got, more := k.Next()
	if more == want.over || want.over && got != (api.Deed{}) || more && got != want.asked[len(want.asked)-1] {
		t.Fatalf("Lift of %+v, told %v, asks for %+v (%v), not as %+v", j, l, got, more, want)
	}
	return want
}

// made makes the memory at the beginning of a right plan.
func made(t *testing.T, p api.Plan) *cells.Cells {
	t.Helper()
	c, err := blank.Make(p)
	if err != api.OK {
		t.Fatalf("no memory of %+v: %d", p, err)
	}
	return c
}

// memory makes a memory of words.
func memory(t *testing.T, l []uint64) *cells.Cells {
	t.Helper()
	c, err := cells.Of(l)
	if err != api.OK {
		t.Fatal(err)
	}
	return c
}

// stands asks whether a memory has just these words.
func stands(t *testing.T, c *cells.Cells, l []uint64) {
	t.Helper()
	if got := c.Words(); !slices.Equal(got, l) {
		t.Fatalf("%v stand, not %v", got, l)
	}
}

// word is a number as a word.
func word(n int) uint64 { return uint64(n) }

// row is a list of n words w.
func row(n int, w uint64) []uint64 {
	l := make([]uint64, n)
	for i := range l {
		l[i] = w
	}
	return l
}

// 21.1: the chapter's examples, in numbers and done alone; and of each number of levels and each height at the beginning.
func TestExamples(t *testing.T) {
	lifts(t, job{small, mine, key, 1, row(2, 0), row(2, 0)})
	lifts(t, job{small, mine, key, 2, row(2, 0), row(2, 0)}, step{read(32, mine), 0}, step{swap(8, 0, mine, 0), 0})
	for _, p := range rightPlans() {
		for tall := 1; tall <= p.Levels; tall++ {
			c := made(t, p)
			stand, r := c.Words(), ref(p.Gen, p.Slots)
			k := Lift(p, r, key, tall, row(p.Levels, 0), row(p.Levels, 0))
			if l := task.Play(c, k, 99); !slices.Equal(l, row(2*(tall-1), 0)) {
				t.Fatalf("%v was found at the beginning of %+v, of the height %d", l, p, tall)
			}
			ended(t, k)
			for h := 1; h < tall; h++ {
				stand[nextAt(p, 0, h)] = r
			}
			stands(t, c, stand)
		}
	}
}

// 21.1: each deed in the names of api's, of layer 2 and of layer 8.
func TestDeedsByName(t *testing.T) {
	p := api.Plan{Threads: 2, Slots: 3, Levels: 2, Gen: 9}
	x, y, r := refer.Of(3, 1), refer.Of(4, 3), refer.Of(5, 2)
	lifts(t, job{p, r, api.Key{Deadline: 8, Seq: 5}, 2, []uint64{0, x}, []uint64{r, y}},
		step{api.Deed{Kind: api.Load, At: plan.Next(p, 2, 1), By: r}, 0},
		step{api.Deed{Kind: api.Swap, At: plan.Next(p, 2, 1), A: 0, B: y, By: r}, 0},
		step{api.Deed{Kind: api.Swap, At: plan.Next(p, 1, 1), A: y, B: r, By: x}, 0},
		step{api.Deed{Kind: api.Load, At: plan.Next(p, 0, 1)}, y},
		step{api.Deed{Kind: api.Load, At: plan.Next(p, 3, 1), By: y}, 0},
		step{api.Deed{Kind: api.Load, At: plan.Dead(p, 3), By: y}, 9},
		step{api.Deed{Kind: api.Load, At: plan.Next(p, 0, 0)}, x},
		step{api.Deed{Kind: api.Load, At: plan.Next(p, 1, 0), By: x}, r},
		step{api.Deed{Kind: api.Load, At: plan.Dead(p, 1), By: x}, 8},
		step{api.Deed{Kind: api.Load, At: plan.Seq(p, 1), By: x}, 4},
		step{api.Deed{Kind: api.Load, At: plan.Next(p, 2, 0), By: r}, refer.Mark(y)},
		step{api.Deed{Kind: api.Swap, At: plan.Next(p, 1, 0), A: r, B: y, By: x}, r},
		step{api.Deed{Kind: api.Load, At: plan.Next(p, 3, 0), By: y}, 0},
		step{api.Deed{Kind: api.Load, At: plan.Dead(p, 3), By: y}, 9},
		step{api.Deed{Kind: api.Load, At: plan.Next(p, 2, 1), By: r}, y},
		step{api.Deed{Kind: api.Swap, At: plan.Next(p, 0, 1), A: y, B: r}, y})
}

// 21.1: of a height that is 1 or less, or where preds or succs have none for the level 1, it is done at once, whatever it is asked else.
func TestNothingToDo(t *testing.T) {
	for _, p := range allPlans() {
		for _, r := range []uint64{0, 1, mine, mine + 1, math.MaxUint64} {
			for _, tall := range talls {
				if tall <= 1 {
					lifts(t, job{p, r, key, tall, row(8, 0), row(9, 2)})
				}
				for _, l := range [][]uint64{nil, {}, {0}, {5}} {
					lifts(t, job{p, r, key, tall, l, l})
					lifts(t, job{p, r, key, tall, l, row(9, 2)})
					lifts(t, job{p, r, key, tall, row(9, 2), l})
				}
			}
		}
	}
	c := made(t, small)
	stand := c.Words()
	if l := task.Play(c, Lift(small, mine, key, 2, row(1, 0), row(2, 0)), 9); len(l) != 0 {
		t.Fatalf("%v was found of no level", l)
	}
	stands(t, c, stand)
}

// 21.1: level by level, from 1 on, as long as that is below the height, and both lists have one for it, be they as long as the plan has levels, or not; each level has its own places and words.
func TestLevels(t *testing.T) {
	for _, p := range allPlans() {
		for _, tall := range talls {
			for _, n := range []int{0, 1, 2, 3, 4, 8, 9, 12} {
				for _, m := range []int{0, 1, 2, n - 1, n, n + 1, 20} {
					var preds, succs []uint64
					for h := range n {
						preds = append(preds, ref(uint64(h), 1))
					}
					for h := range m {
						succs = append(succs, ref(uint64(h), 2))
					}
					k := Lift(p, mine, key, tall, preds, succs)
					for h := 1; h < min(tall, n, m); h++ {
						goes(t, k, []step{{read(nextAt(p, 3, h), mine), 0}, {swap(nextAt(p, 3, h), 0, succs[h], mine), 0}, {swap(nextAt(p, 1, h), succs[h], mine, preds[h]), succs[h]}})
					}
					ended(t, k)
				}
			}
		}
	}
}

// 21.1: a reference with or without the mark, of all generations, and of all indexes that there are, be there such a slot or not: its index leads to the words at the places of chapter 8's sums, By it, and it is what is swapped in, as it stands; the index 0 leads to the head's ways on.
func TestReferences(t *testing.T) {
	for _, p := range allPlans() {
		for _, gen := range []uint64{0, 1, 1 << 31, lastGen} {
			for _, slot := range []int{0, 1, 2, p.Slots, p.Slots + 1, 64, 65, 1 << 30, lastIndex} {
				if slot < 0 || slot > lastIndex {
					continue
				}
				for _, r := range []uint64{ref(gen, slot), ref(gen, slot) + 1} {
					lifts(t, job{p, r, key, 3, row(3, a), row(3, b)},
						step{read(nextAt(p, slot, 1), r), 0}, step{swap(nextAt(p, slot, 1), 0, b, r), 0}, step{swap(nextAt(p, 1, 1), b, r, a), b},
						step{read(nextAt(p, slot, 2), r), b}, step{swap(nextAt(p, 1, 2), b, r, a), b})
				}
			}
		}
	}
}

// 21.1: whoever stands ahead and behind, of all generations and indexes, with a mark or without: the swap is at the place of the one, By it, and holds the other one, as it stands; so does the timer's own way on.
func TestReferencesOfOthers(t *testing.T) {
	for _, p := range allPlans() {
		for _, gen := range []uint64{0, 1, 1 << 31, lastGen} {
			for _, slot := range []int{0, 1, 2, p.Slots, p.Slots + 1, 64, 65, 1 << 30, lastIndex} {
				if slot < 0 || slot > lastIndex {
					continue
				}
				for mark := range uint64(4) {
					x, y := ref(gen, slot)+mark%2, ref(lastGen-gen, lastIndex-slot)+mark/2
					lifts(t, job{p, mine, key, 2, []uint64{a, x, b}, []uint64{b, y, a}},
						step{read(nextAt(p, 3, 1), mine), 88}, step{swap(nextAt(p, 3, 1), 88, y, mine), 88}, step{swap(nextAt(p, slot, 1), y, mine, x), y})
				}
			}
		}
	}
}

// 21.1: at all levels the way on that is loaded is 0, the succ, or another word: just where it is another one than the succ it is turned; where it is marked, it is done, be it the succ or not.
func TestWayOn(t *testing.T) {
	for _, succ := range append([]uint64{a, am, b, bm, mine}, words...) {
		for _, w := range append([]uint64{a, am, b, bm, mine, mine + 1, succ, succ ^ 1, succ + half}, words...) {
			j := job{three, mine, key, 3, []uint64{a, 0, b}, []uint64{88, succ, succ}}
			first := []step{{read(35, mine), w}}
			second := []step{{read(36, mine), w}}
			switch {
			case w%2 == 1:
				lifts(t, j, first...)
				lifts(t, j, append([]step{{read(35, mine), 88}, {swap(35, 88, succ, mine), 88}, {swap(8, succ, mine, 0), succ}}, second...)...)
				continue
			case w != succ:
				first, second = append(first, step{swap(35, w, succ, mine), w}), append(second, step{swap(36, w, succ, mine), w})
			}
			lifts(t, j, slices.Concat(first, []step{{swap(8, succ, mine, 0), succ}}, second, []step{{swap(27, succ, mine, b), succ}})...)
		}
	}
}

// 21.1: it is done where the timer's way on is another one than it was, when it is to be turned, at the first level, at a later one, and behind a seek.
func TestWayOnThatOthersTurned(t *testing.T) {
	j := job{three, mine, key, 3, []uint64{0, a, b}, []uint64{0, b, a}}
	first := []step{{read(35, mine), 88}, {swap(35, 88, b, mine), 88}, {swap(17, b, mine, a), b}}
	anew := []step{{read(35, mine), 88}, {swap(35, 88, b, mine), 88}, {swap(17, b, mine, a), am}, {read(9, 0), 0}, {read(8, 0), 0}, {read(7, 0), 0}}
	for _, w := range []uint64{0, a, b, 2, mine, ref(lastGen, lastIndex)} {
		var others []uint64
		for bit := range 64 {
			others = append(others, w^1<<bit)
		}
		for _, other := range append(append(others, words...), w+1, w+2, w-2, w+half, b, bm, am, 88) {
			if other == w {
				continue
			}
			for _, l := range [][]step{{}, first, anew} {
				k := j.lift()
				goes(t, k, l)
				level, succ := 1, b
				switch len(l) {
				case 3:
					level, succ = 2, a
				case 6:
					succ = 0
				}
				if uint64(succ) == w {
					continue
				}
				goes(t, k, []step{{read(34+level, mine), w}, {swap(34+level, w, uint64(succ), mine), other}})
				ended(t, k)
			}
		}
	}
}

// 21.1: behind a Swap that finds the succ it goes on with the next level, and behind one that finds any other word it seeks, again and again, and each bit of the succ counts.
func TestSwapFindsAnotherWord(t *testing.T) {
	for _, succ := range []uint64{0, 1, 2, a, am, b, mine, ref(lastGen, lastIndex), ref(0, lastIndex), ref(lastGen, 1)} {
		var others []uint64
		for bit := range 64 {
			others = append(others, succ^1<<bit)
		}
		for _, other := range append(append(others, words...), succ+1, succ-1, succ+2, succ+half, a, am, b, bm, mine, mine+1) {
			if other == succ {
				continue
			}
			j := job{three, mine, key, 3, row(3, a), row(3, succ)}
			load := []step{{read(35, mine), 88}, {swap(35, 88, succ, mine), 88}}
			fails := append(load, step{swap(17, succ, mine, a), other})
			seek := []step{{read(9, 0), 0}, {read(8, 0), b}, {read(26, b), 0}, {read(20, b), 21}, {read(7, 0), 0}}
			again := []step{{read(35, mine), b}, {swap(8, b, mine, 0), 0}}
			ends := []step{{read(35, mine), b}, {swap(8, b, mine, 0), b}, {read(36, mine), 0}, {swap(9, 0, mine, 0), 0}}
			lifts(t, j, slices.Concat(load, []step{{swap(17, succ, mine, a), succ}, {read(36, mine), am}})...)
			lifts(t, j, slices.Concat(fails, seek, ends)...)
			lifts(t, j, slices.Concat(fails, seek, again, seek, again, seek, again, seek, ends)...)
		}
	}
}

// 21.1: behind a seek all that was found ahead of it is forgotten, at all levels: it goes on at the same level, with what the seek found, and does so at the next one.
func TestSoughtAnew(t *testing.T) {
	j := job{three, mine, key, 3, []uint64{a, a, a}, []uint64{b, b, b}}
	try := []step{{read(35, mine), 0}, {swap(35, 0, b, mine), 0}, {swap(17, b, mine, a), 0}}
	nothing := []step{{read(9, 0), 0}, {read(8, 0), 0}, {read(7, 0), 0}}
	lifts(t, j, slices.Concat(try, nothing, []step{{read(35, mine), b}, {swap(35, b, 0, mine), b}, {swap(8, 0, mine, 0), 0}, {read(36, mine), 0}, {swap(9, 0, mine, 0), 0}})...)
	// At the level 2 it finds a and b, at the level 1 b and none, and at the level 0 b and mine.
	others := []step{
		{read(9, 0), a}, {read(18, a), b}, {read(11, a), 19}, {read(27, b), 0}, {read(20, b), 20}, {read(21, b), 30},
		{read(17, a), b}, {read(26, b), 0}, {read(20, b), 19},
		{read(25, b), mine}, {read(34, mine), 0}, {read(29, mine), 20}, {read(30, mine), 30},
	}
	lifts(t, j, slices.Concat(try, others, []step{{read(35, mine), b}, {swap(35, b, 0, mine), b}, {swap(26, 0, mine, b), 0}, {read(36, mine), 88}, {swap(36, 88, b, mine), 88}, {swap(18, b, mine, a), b}})...)
	// It is at the level 2 when it seeks, so it does not go back to 1.
	up := []step{{read(35, mine), b}, {swap(17, b, mine, a), b}, {read(36, mine), b}, {swap(18, b, mine, a), bm}}
	lifts(t, j, slices.Concat(up, others, []step{{read(36, mine), b}, {swap(18, b, mine, a), b}})...)
	lifts(t, j, slices.Concat(up, nothing, []step{{read(36, mine), b}, {swap(36, b, 0, mine), b}, {swap(9, 0, mine, 0), b}}, others, []step{{read(36, mine), 0}, {swap(36, 0, b, mine), 0}, {swap(18, b, mine, a), b}})...)
	// Taken while it sought.
	lifts(t, j, slices.Concat(up, others, []step{{read(36, mine), bm}})...)
	lifts(t, j, slices.Concat(try, nothing, []step{{read(35, mine), b}, {swap(35, b, 0, mine), bm}})...)
}

// 21.1: a seek that begins anew amid it, by a way on of pred that is marked, and by a Swap that finds another word, and that takes others out.
func TestSeekThatBeginsAnew(t *testing.T) {
	j := job{small, mine, key, 2, row(2, a), row(2, b)}
	try := []step{{read(32, mine), b}, {swap(16, b, mine, a), 0}}
	for _, marked := range []uint64{1, 3, am, bm, mine + 1, math.MaxUint64} {
		begins := []step{
			{read(8, 0), marked},
			{read(8, 0), a}, {read(16, a), 0}, {read(10, a), 19}, {read(15, a), marked},
			{read(8, 0), a}, {read(16, a), bm}, {swap(8, a, b, 0), b},
		}
		ends := []step{
			{read(8, 0), a}, {read(16, a), bm}, {swap(8, a, b, 0), a}, {read(24, b), 0}, {read(18, b), 21},
			{read(7, 0), a}, {read(15, a), bm}, {swap(7, a, b, 0), a}, {read(23, b), 0}, {read(18, b), 21},
		}
		in := []step{{read(32, mine), b}, {swap(8, b, mine, 0), b}}
		lifts(t, j, slices.Concat(try, begins, ends, in)...)
		lifts(t, j, slices.Concat(try, begins, begins, ends, []step{{read(32, mine), b}, {swap(8, b, mine, 0), am}}, begins, ends, in)...)
	}
}

// 21.1: a seek that finds fewer levels than the height, so that there is none for the level, or for the next one; of a plan without levels it finds none at all.
func TestSeekThatFindsFewerLevels(t *testing.T) {
	long := row(9, a)
	for levels := range 9 {
		for h := 1; h < 9; h++ {
			p := api.Plan{Threads: 1, Slots: 3, Levels: levels}
			k := Lift(p, mine, key, 9, long, row(9, b))
			for n := 1; n < h; n++ {
				goes(t, k, []step{{read(nextAt(p, 3, n), mine), b}, {swap(nextAt(p, 1, n), b, mine, a), b}})
			}
			goes(t, k, []step{{read(nextAt(p, 3, h), mine), b}, {swap(nextAt(p, 1, h), b, mine, a), 0}})
			for n := levels - 1; n >= 0; n-- {
				goes(t, k, []step{{read(nextAt(p, 0, n), 0), 0}})
			}
			for n := h; n < levels; n++ {
				goes(t, k, []step{{read(nextAt(p, 3, n), mine), 0}, {swap(nextAt(p, 0, n), 0, mine, 0), 0}})
			}
			ended(t, k)
		}
	}
	for _, levels := range []int{0, -1, -2, -1 << 32, -1<<32 + 2, math.MinInt + 1, math.MinInt} {
		p := api.Plan{Threads: 2, Slots: 5, Levels: levels}
		lifts(t, job{p, mine, key, math.MaxInt, long, long}, step{read(nextAt(p, 3, 1), mine), a}, step{swap(nextAt(p, 1, 1), a, mine, a), 0})
	}
}

// 21.1: a seek of keys that are less than all, between two, greater than all, or there already: with what it finds it goes on.
func TestKeys(t *testing.T) {
	for _, mineD := range deadlines {
		for _, d := range deadlines {
			for _, mineS := range seqs {
				for _, s := range seqs {
					k := api.Key{Deadline: mineD, Seq: mineS}
					l := []step{{read(32, mine), 0}, {swap(8, 0, mine, 0), a}, {read(8, 0), a}, {read(16, a), 0}, {read(10, a), word(d)}}
					if d == mineD {
						l = append(l, step{read(11, a), s})
					}
					if less(api.Key{Deadline: d, Seq: s}, k) {
						l = append(l, step{read(15, a), 0}, step{read(32, mine), 0}, step{swap(16, 0, mine, a), 0})
					} else {
						l = append(l, step{read(7, 0), 0}, step{read(32, mine), 0}, step{swap(32, 0, a, mine), 0}, step{swap(8, a, mine, 0), a})
					}
					lifts(t, job{small, mine, k, 2, row(2, 0), row(2, 0)}, l...)
				}
			}
		}
	}
}

// 21.1 and R4: the lists that are handed in are not kept, whoever changes them then, and not changed, nor is what stands behind them.
func TestListsThatAreHandedIn(t *testing.T) {
	preds, succs := []uint64{0, a, 0, 55, 56}, []uint64{0, 0, a, 57, 58}
	k := Lift(three, mine, key, 3, preds[:3], succs[:3])
	scribble := func(l []uint64) {
		for i := range l {
			l[i] = 66
		}
	}
	asks(t, k, read(35, mine))
	scribble(preds)
	scribble(succs)
	goes(t, k, []step{{read(35, mine), 88}, {swap(35, 88, 0, mine), 88}, {swap(17, 0, mine, a), 0}, {read(36, mine), a}, {swap(9, a, mine, 0), b}})
	goes(t, k, []step{{read(9, 0), 0}, {read(8, 0), 0}, {read(7, 0), 0}, {read(36, mine), 0}, {swap(9, 0, mine, 0), 0}})
	ended(t, k)
	if !slices.Equal(preds, row(5, 66)) || !slices.Equal(succs, row(5, 66)) {
		t.Errorf("%v and %v are changed", preds, succs)
	}
	one := []uint64{1, 2, 3, 4}
	lifts(t, job{three, mine, key, 9, one[:2], one[:3]}, step{read(35, mine), 0}, step{swap(35, 0, 2, mine), 0}, step{swap(nextAt(three, 1, 1), 2, mine, 2), 0},
		step{read(9, 0), 0}, step{read(8, 0), 0}, step{read(7, 0), 0}, step{read(35, mine), 0}, step{swap(8, 0, mine, 0), 0}, step{read(36, mine), 1})
	if !slices.Equal(one, []uint64{1, 2, 3, 4}) {
		t.Errorf("%v is changed", one)
	}
}

// 21.1: it goes on as long as its Swap finds another word, again and again, and keeps nothing of that.
func TestAgainAndAgain(t *testing.T) {
	k := Lift(small, mine, key, 1<<40, row(2, 0), row(2, 0))
	goes(t, k, []step{{read(32, mine), 0}, {swap(8, 0, mine, 0), 1}})
	for n := range uint64(5000) {
		x, y := ref(n, 1), ref(n+1, 2)
		goes(t, k, []step{
			{read(8, 0), x}, {read(16, x), y}, {read(10, x), n % 20}, {read(24, y), 0}, {read(18, y), 21 + n},
			{read(15, x), 0},
			{read(32, mine), 2 * n}, {swap(32, 2*n, y, mine), 2 * n}, {swap(16, y, mine, x), y + 1 - n%2*2},
		})
	}
	goes(t, k, []step{{read(8, 0), 0}, {read(7, 0), 0}, {read(32, mine), 0}, {swap(8, 0, mine, 0), 0}})
	ended(t, k)
}

// choices are words that may be found by a job's deed: those that the chapters tell apart, and others.
func choices(d api.Deed, what int, j job) []uint64 {
	switch {
	case what == loading:
		return []uint64{0, 1, a, b, bm}
	case what == turning:
		return []uint64{d.A, d.A ^ 1, d.B}
	case what == hanging:
		return []uint64{d.A, d.A ^ 1, d.B}
	case d.Kind == 3:
		return []uint64{d.A, d.A + 1, d.B}
	}
	if slot := indexOf(d.By); slot != 0 {
		switch d.At {
		case deadAt(j.plan, slot):
			return []uint64{word(j.key.Deadline - 1), word(j.key.Deadline), word(j.key.Deadline + 1)}
		case seqAt(j.plan, slot):
			return []uint64{j.key.Seq - 1, j.key.Seq, j.key.Seq + 1}
		}
	}
	return []uint64{0, 1, a, bm, 9 * half}
}

// 21.1: whatever of the words that the chapter tells apart is found at each of the first steps, it goes on as the chapter's sentences say.
func TestWhateverIsFound(t *testing.T) {
	for _, p := range []api.Plan{small, three} {
		for _, tall := range []int{2, 3} {
			for _, k := range []api.Key{{}, key, {Deadline: math.MinInt, Seq: math.MaxUint64}} {
				j := job{p, mine, k, tall, []uint64{0, a, 0}, []uint64{0, 0, b}}
				var l []uint64
				var fill func()
				fill = func() {
					fast := j.lift()
					for _, found := range l {
						fast.Tell(found)
					}
					want := same(t, fast, j, l)
					if want.over || len(l) == 8 {
						return
					}
					for _, found := range choices(want.asked[len(want.asked)-1], want.what, j) {
						l = append(l, found)
						fill()
						l = l[:len(l)-1]
					}
				}
				fill()
			}
		}
	}
}

// anyRef is a reference of chance, of an edge, with a mark or without, or any word.
func anyRef(r *rand.Rand) uint64 {
	switch r.Intn(4) {
	case 0:
		return r.Uint64()
	case 1:
		return words[r.Intn(len(words))]
	}
	return ref([]uint64{0, 1, uint64(r.Uint32()), lastGen}[r.Intn(4)], r.Intn(70)) + uint64(r.Intn(2))
}

// anyRefs are so many references of chance.
func anyRefs(r *rand.Rand, n int) []uint64 {
	var l []uint64
	for range n {
		l = append(l, anyRef(r))
	}
	return l
}

// anyKey is a key of chance, or of the edges.
func anyKey(r *rand.Rand) api.Key {
	if r.Intn(2) == 0 {
		return api.Key{Deadline: int(r.Uint64()), Seq: r.Uint64()}
	}
	return api.Key{Deadline: deadlines[r.Intn(len(deadlines))], Seq: seqs[r.Intn(len(seqs))]}
}

// 21.1: words of chance, of which most are such as the chapters tell apart, of all plans, references, keys, heights and lists.
func TestWordsOfChance(t *testing.T) {
	r := rand.New(rand.NewSource(21))
	again, over, into := 0, 0, 0
	for _, p := range allPlans() {
		for range 300 {
			j := job{p, anyRef(r), anyKey(r), talls[r.Intn(len(talls))], anyRefs(r, r.Intn(10)), anyRefs(r, r.Intn(10))}
			fast := j.lift()
			var l []uint64
			for range r.Intn(90) {
				want := same(t, fast, j, l)
				if want.over {
					break
				}
				now := want.asked[len(want.asked)-1]
				some := choices(now, want.what, j)
				found := some[r.Intn(len(some))]
				switch {
				case want.what == loading && r.Intn(2) == 0:
					found &^= 1
				case want.what == turning && r.Intn(4) > 0:
					found = now.A
				case want.what == seeking && r.Intn(2) == 0:
					found = 0
				}
				if r.Intn(20) == 0 {
					found = anyRef(r)
				}
				fast.Tell(found)
				l = append(l, found)
			}
			want := same(t, fast, j, l)
			again += want.again
			into += len(want.into)
			if want.over && len(l) > 0 {
				over++
			}
		}
	}
	if again < 5000 || over < 5000 || into < 2500 {
		t.Errorf("it sought %d times only, came to its end %d times, and into %d chains", again, over, into)
	}
}

// started is a job of three levels, and walked are the steps of it, with all kinds of deeds, amid which it seeks twice.
var (
	started = job{three, mine, key, 3, []uint64{0, a, b}, []uint64{0, b, 0}}
	walked  = []step{
		{read(35, mine), 88}, {swap(35, 88, b, mine), 88}, {swap(17, b, mine, a), 0},
		{read(9, 0), 0},
		{read(8, 0), a}, {read(17, a), 0}, {read(11, a), 20}, {read(12, a), 30},
		{read(7, 0), b}, {read(25, b), am}, {swap(7, b, a, 0), b}, {read(16, a), 0}, {read(11, a), 20}, {read(12, a), 29},
		{read(35, mine), b}, {swap(35, b, a, mine), b}, {swap(8, a, mine, 0), a},
		{read(36, mine), 0}, {swap(9, 0, mine, 0), b},
		{read(9, 0), b}, {read(27, b), 0}, {read(20, b), 19}, {read(26, b), 0}, {read(25, b), 0},
		{read(36, mine), 0}, {swap(27, 0, mine, b), 0},
	}
)

// 21.1: asking changes nothing, however often: at each kind of step, amid the first seek, behind it, amid a later one, and at the end.
func TestAskingChangesNothing(t *testing.T) {
	k := started.lift()
	for _, s := range walked {
		for range 300 {
			asks(t, k, s.asked)
		}
		k.Tell(s.found)
	}
	for range 100 {
		ended(t, k)
	}
}

// 21.1: a task is told ahead of being asked, and goes on all the same.
func TestTellAheadOfNext(t *testing.T) {
	for n := range walked {
		k := started.lift()
		for _, s := range walked[:n] {
			k.Tell(s.found)
		}
		asks(t, k, walked[n].asked)
	}
	k := started.lift()
	for _, s := range walked {
		k.Tell(s.found)
	}
	ended(t, k)
}

// 21.1 and R7: a lifter that is nil, or that no call made, is done, stays so, and does nothing.
func TestTasksThatNoCallMade(t *testing.T) {
	var none *Lifter
	for _, k := range []*Lifter{none, {}, new(Lifter)} {
		ended(t, k)
		for _, w := range words {
			k.Tell(w)
			ended(t, k)
		}
		c := made(t, small)
		was := c.Words()
		if l := task.Play(c, k, 9); len(l) != 0 {
			t.Errorf("%v was found", l)
		}
		stands(t, c, was)
	}
}

// 21.1: each lifter goes its own way, of the same job and of others.
func TestTasksAreApart(t *testing.T) {
	x, y, other := started.lift(), started.lift(), Lift(small, b, api.Key{Deadline: 1}, 2, row(2, 0), row(2, a))
	for _, s := range walked {
		asks(t, x, s.asked)
		asks(t, y, read(35, mine))
		asks(t, other, read(24, b))
		x.Tell(s.found)
	}
	for _, s := range walked[:16] {
		asks(t, y, s.asked)
		y.Tell(s.found)
	}
	goes(t, other, []step{{read(24, b), 0}, {swap(24, 0, a, b), 0}, {swap(8, a, b, 0), a}})
	goes(t, y, []step{{swap(8, a, mine, 0), a}, {read(36, mine), am}})
	ended(t, y)
	ended(t, other)
	ended(t, x)
}

// 21.1: where there is no memory each deed finds 0: where both lists tell 0, each level takes two steps.
func TestNoMemory(t *testing.T) {
	for _, c := range []*cells.Cells{nil, new(cells.Cells)} {
		for _, p := range allPlans() {
			for _, tall := range talls {
				k := Lift(p, mine, key, tall, row(9, 0), row(8, 0))
				steps := 2 * (max(min(tall, 8), 1) - 1)
				if l := task.Play(c, k, 99); !slices.Equal(l, row(steps, 0)) {
					t.Fatalf("%v was found of no memory", l)
				}
				ended(t, k)
				// Where they tell others, it seeks as many levels as the plan has, and goes on there.
				if p.Levels > 1000 {
					continue
				}
				k = Lift(p, mine, key, tall, row(9, a), row(8, b))
				steps = 0
				if tall > 1 {
					levels := max(p.Levels, 0)
					steps = 3 + levels + 2*(max(min(tall, levels), 1)-1)
				}
				if l := task.Play(c, k, 5000); !slices.Equal(l, row(steps, 0)) {
					t.Fatalf("%d were found of no memory, not %d", len(l), steps)
				}
				ended(t, k)
			}
		}
	}
}

// 21.1: of more levels than there may be it goes through as many as the lists have, and seeks as many as the plan says.
func TestMoreLevelsThanThereMayBe(t *testing.T) {
	for _, levels := range []int{9, 64, 1000, 70000} {
		p := api.Plan{Threads: 1, Slots: 3, Levels: levels}
		k := Lift(p, mine, key, math.MaxInt, row(levels+1, 0), row(levels+2, 0))
		turn := func(h int, pred, succ, found uint64) {
			t.Helper()
			for _, s := range []step{{read(nextAt(p, 3, h), mine), succ}, {swap(nextAt(p, indexOf(pred), h), succ, mine, pred), found}} {
				if d, more := k.Next(); !more || d != s.asked {
					t.Fatalf("%+v is asked for (%v) at the level %d", d, more, h)
				}
				k.Tell(s.found)
			}
		}
		for h := 1; h < levels; h++ {
			turn(h, 0, 0, 0)
		}
		turn(levels, 0, 0, 0)
		ended(t, k)
		k = Lift(p, mine, key, math.MaxInt, row(levels+1, 0), row(levels+2, 0))
		turn(1, 0, 0, 1)
		for n := levels - 1; n >= 0; n-- {
			k.Tell(ref(uint64(n), 1))
			k.Tell(0)
			k.Tell(21)
		}
		for h := 1; h < levels; h++ {
			turn(h, 0, ref(uint64(h), 1), ref(uint64(h), 1))
		}
		ended(t, k)
	}
}

// 21.1: of plans that are not right, and of memories of any words, the words that there are turn as the steps say, wherever the sums put them.
func TestAnyMemory(t *testing.T) {
	r := rand.New(rand.NewSource(211))
	low := func() uint64 { return ref(uint64(r.Intn(2)), r.Intn(6)) + uint64(r.Intn(8)/7) }
	for _, p := range allPlans() {
		for range 40 {
			l := make([]uint64, r.Intn(120))
			for at := range l {
				l[at] = low()
				if r.Intn(9) == 0 {
					l[at] = words[r.Intn(len(words))]
				}
			}
			j := job{plan: p, ref: low(), key: api.Key{Deadline: r.Intn(10), Seq: uint64(r.Intn(10))}, tall: r.Intn(10) - 1}
			for range r.Intn(9) {
				j.preds, j.succs = append(j.preds, low()), append(j.succs, low())
			}
			c, fast := memory(t, l), j.lift()
			found, over := j.played(l, 50)
			if got := task.Play(c, fast, 50); !slices.Equal(got, found) {
				t.Fatalf("%v was found, not %v", got, found)
			}
			stands(t, c, l)
			if want := same(t, fast, j, found); want.over != over {
				t.Fatalf("over is %v", want.over)
			}
		}
	}
}

// member is a slot that is in chains: its reference, its key, whether it is in the chain of a level, and whether it is going out of it.
type member struct {
	ref     uint64
	key     api.Key
	in, out [api.MaxLevels]bool
}

// sorted sorts members by their keys, of which none is there twice.
func sorted(l []member) []member {
	slices.SortFunc(l, func(x, y member) int {
		if less(x.key, y.key) {
			return -1
		}
		return 1
	})
	return l
}

// at tells those of l, sorted, that are in the chain of a level.
func at(l []member, level int) []member {
	var in []member
	for _, m := range l {
		if m.in[level] {
			in = append(in, m)
		}
	}
	return in
}

// lay lays the chains of sorted members on the words of a plan, each way on of which the slot is going out of the chain with a mark.
func lay(stand []uint64, p api.Plan, l []member) {
	for _, m := range l {
		stand[deadAt(p, indexOf(m.ref))], stand[seqAt(p, indexOf(m.ref))] = word(m.key.Deadline), m.key.Seq
	}
	for h := range p.Levels {
		from, mark := 0, uint64(0)
		for _, m := range append(at(l, h), member{}) {
			stand[nextAt(p, from, h)] = m.ref + mark
			from, mark = indexOf(m.ref), 0
			if m.out[h] {
				mark = 1
			}
		}
	}
}

// walk tells those that stand in the chain of a level of a memory, from the head on, and which of them are there without a mark.
func walk(t *testing.T, stand []uint64, p api.Plan, level int) (all, staying []uint64) {
	t.Helper()
	w := stand[nextAt(p, 0, level)]
	for n := 0; w%half > 1; n++ {
		if n > p.Slots {
			t.Fatalf("the chain of the level %d does not end", level)
		}
		r := w - w%2
		w = stand[nextAt(p, indexOf(r), level)]
		all = append(all, r)
		if w%2 == 0 {
			staying = append(staying, r)
		}
	}
	return all, staying
}

// rises asks whether the chain of a level of a memory rises.
func rises(t *testing.T, stand []uint64, p api.Plan, level int) {
	t.Helper()
	all, _ := walk(t, stand, p, level)
	keyOf := func(r uint64) api.Key {
		return api.Key{Deadline: int(stand[deadAt(p, indexOf(r))]), Seq: stand[seqAt(p, indexOf(r))]}
	}
	for i := 1; i < len(all); i++ {
		if !less(keyOf(all[i-1]), keyOf(all[i])) {
			t.Fatalf("the chain %v of the level %d does not rise at the place %d", all, level, i)
		}
	}
}

// places tells by 18.2 what is found at a level: the last one without a mark that is less than the key, and the first one without a mark that is not.
func places(l []member, level int, k api.Key) (pred, succ uint64) {
	for _, m := range at(l, level) {
		switch {
		case m.out[level]:
		case less(m.key, k):
			pred = m.ref
		case succ == 0:
			succ = m.ref
		}
	}
	return pred, succ
}

// all are the lists of what stands ahead and behind at the levels of a plan, by 18.2.
func all(p api.Plan, l []member, k api.Key) (preds, succs []uint64) {
	for h := range p.Levels {
		pred, succ := places(l, h, k)
		preds, succs = append(preds, pred), append(succs, succ)
	}
	return preds, succs
}

// low lays the chains of sorted members, and brings the timer of a job, of which none has the slot or the key, into the lowest chain alone; its ways on above are the words before. It tells all members then.
func low(stand []uint64, j job, l []member, before []uint64) []member {
	own := member{ref: j.ref, key: j.key}
	own.in[0] = true
	l = sorted(append(slices.Clone(l), own))
	lay(stand, j.plan, l)
	for h := 1; h < j.plan.Levels; h++ {
		stand[nextAt(j.plan, indexOf(j.ref), h)] = before[h%len(before)]
	}
	return l
}

// alone does a job alone to the chains of sorted members, of which none is in its slot nor has its key, and asks whether the timer, that was in the lowest chain alone, is in those of all levels below its height then, all of which rise, and have all that they had without a mark.
func alone(t *testing.T, j job, l []member, before []uint64) {
	t.Helper()
	p := j.plan
	stand := made(t, p).Words()
	low(stand, j, l, before)
	c, fast := memory(t, stand), j.lift()
	got := task.Play(c, fast, 9000)
	now := c.Words()
	ended(t, fast)
	for h := range p.Levels {
		_, was := walk(t, stand, p, h)
		_, is := walk(t, now, p, h)
		pred, succ := places(l, h, j.key)
		if h > 0 && h < j.tall {
			was = slices.Insert(was, slices.Index(was, pred)+1, j.ref)
			if w, v := now[nextAt(p, indexOf(j.ref), h)], now[nextAt(p, indexOf(pred), h)]; w != succ || v != j.ref {
				t.Fatalf("%d leads to %d, and the timer to %d, at the level %d", pred, v, w, h)
			}
		}
		if !slices.Equal(was, is) {
			t.Fatalf("%v are in the chain of the level %d, not %v", is, h, was)
		}
		rises(t, now, p, h)
	}
	found, over := j.played(stand, 9000)
	if !over || !slices.Equal(got, found) {
		t.Fatalf("%v was found, not %v", got, found)
	}
	stands(t, c, stand)
}

// 21.1: done alone, in all chains of three slots and two levels that the chapter tells apart (in each chain, not in it, going out of it), in many of their orders, of each key that is less, between, or greater, the timer is in the higher chain then, be the lists that are handed in what stands there, or old.
func TestAloneInAllSmallChains(t *testing.T) {
	p := api.Plan{Threads: 1, Slots: 4, Levels: 2}
	keys := []api.Key{{Deadline: -1, Seq: 9}, {Deadline: 4, Seq: 4}, {Deadline: 4, Seq: 8}}
	asked := []api.Key{{Deadline: -2, Seq: 99}, {Deadline: -1, Seq: 8}, {Deadline: 0, Seq: 0}, {Deadline: 4, Seq: 5}, {Deadline: 4, Seq: 9}, {Deadline: math.MaxInt}}
	// Of two levels, from the lower one on: in the chain (1), going out of it (2), or not in it (0). Whoever stays in the higher one stays in the lower one too.
	ways := [][2]int{{0, 0}, {1, 0}, {2, 0}, {0, 2}, {1, 2}, {2, 2}, {1, 1}}
	for turn, order := range [][]int{{1, 2, 3, 4}, {4, 3, 2, 1}, {2, 4, 1, 3}, {3, 4, 1, 2}} {
		for n := range 343 {
			l := make([]member, 3)
			for i, way := range []int{n / 49, n / 7 % 7, n % 7} {
				l[i] = member{ref: ref(uint64(i)*lastGen/2, order[i]), key: keys[i]}
				for h, state := range ways[way] {
					l[i].in[h], l[i].out[h] = state != 0, state == 2
				}
			}
			for _, k := range asked {
				r := ref(lastGen/3*uint64(turn), order[3])
				preds, succs := all(p, l, k)
				for tall := range 4 {
					j := job{p, r, k, tall, preds, succs}
					alone(t, j, l, []uint64{words[n%len(words)] &^ 1})
					j.succs = []uint64{0, 12 * half}
					alone(t, j, l, []uint64{0})
				}
			}
		}
	}
}

// chance makes sorted members of chance of a plan, of all slots but one, of which in the mean one of so many is going out of chains.
func chance(r *rand.Rand, p api.Plan, but, outs int) []member {
	var l []member
	seen := map[api.Key]bool{}
	for slot := 1; slot <= p.Slots; slot++ {
		k := api.Key{Deadline: r.Intn(9) - 4, Seq: uint64(r.Intn(9))}
		if r.Intn(4) == 0 {
			k = api.Key{Deadline: deadlines[r.Intn(len(deadlines))], Seq: seqs[r.Intn(len(seqs))]}
		}
		if slot == but || seen[k] || r.Intn(8) == 0 {
			continue
		}
		seen[k] = true
		m := member{ref: ref([]uint64{0, 1, uint64(r.Uint32()), lastGen}[r.Intn(4)], slot), key: k}
		tall := 1 + r.Intn(p.Levels)
		stay := tall
		if r.Intn(outs) == 0 {
			stay = r.Intn(tall + 1)
		}
		for h := range tall {
			m.out[h] = h >= stay
			m.in[h] = h < stay || r.Intn(3) > 0
		}
		l = append(l, m)
	}
	return sorted(l)
}

// keysOf are neighbours of keys that stand there, and the edges, but no key that stands there.
func keysOf(r *rand.Rand, l []member) []api.Key {
	some := []api.Key{{Deadline: math.MinInt}, {Deadline: math.MaxInt, Seq: math.MaxUint64}, {}}
	for _, m := range l {
		k := m.key
		some = append(some, api.Key{Deadline: k.Deadline, Seq: k.Seq + 1}, api.Key{Deadline: k.Deadline, Seq: k.Seq - 1}, api.Key{Deadline: k.Deadline + 1, Seq: k.Seq}, api.Key{Deadline: k.Deadline - 1, Seq: k.Seq})
	}
	some = slices.DeleteFunc(some, func(k api.Key) bool {
		return slices.ContainsFunc(l, func(m member) bool { return m.key == k })
	})
	r.Shuffle(len(some), func(i, j int) { some[i], some[j] = some[j], some[i] })
	return some[:min(len(some), 10)]
}

// old makes lists of which, in the mean, each third one is old: what is told to stand behind does not.
func old(r *rand.Rand, preds, succs []uint64) ([]uint64, []uint64) {
	preds, succs = slices.Clone(preds), slices.Clone(succs)
	for h := range preds {
		if r.Intn(3) == 0 {
			preds[h], succs[h] = []uint64{0, preds[h]}[r.Intn(2)], []uint64{ref(3, 70), 9 * half, succs[h] + half}[r.Intn(3)]
		}
	}
	return preds, succs
}

// 21.1: done alone, in chains of chance of all right plans, with no slot, with one and with many, with none going out, with some, and with all, with lists of what stands there, and with such as are old at some levels.
func TestAloneInChainsOfChance(t *testing.T) {
	r := rand.New(rand.NewSource(212))
	for _, p := range rightPlans() {
		for _, outs := range []int{1, 2, 5, 1 << 30} {
			for range 3 {
				slot := 1 + r.Intn(p.Slots)
				l := chance(r, p, slot, outs)
				for _, k := range keysOf(r, l) {
					gen := []uint64{0, 1, uint64(r.Uint32()), lastGen}[r.Intn(4)]
					preds, succs := all(p, l, k)
					if r.Intn(2) == 0 {
						preds, succs = old(r, preds, succs)
					}
					before := []uint64{0, words[r.Intn(len(words))] &^ 1, succs[len(succs)/2] &^ 1}
					alone(t, job{p, ref(gen, slot), k, 1 + r.Intn(p.Levels+1), preds, succs}, l, before)
				}
			}
		}
	}
}

// 21.1: of a key that stands there already it comes to stand ahead of that one.
func TestKeyThatStandsThere(t *testing.T) {
	r := rand.New(rand.NewSource(213))
	for _, p := range rightPlans() {
		slot := 1 + r.Intn(p.Slots)
		l := chance(r, p, slot, 3)
		for _, m := range at(l, p.Levels-1) {
			if m.out[p.Levels-1] || p.Levels < 2 {
				continue
			}
			stand := made(t, p).Words()
			lay(stand, p, l)
			c := memory(t, stand)
			task.Play(c, Lift(p, ref(7, slot), m.key, p.Levels, row(p.Levels, 0), row(p.Levels, 66)), 9000)
			now := c.Words()
			for h := 1; h < p.Levels; h++ {
				pred, _ := places(l, h, m.key)
				if m.in[h] && (now[nextAt(p, indexOf(pred), h)] != ref(7, slot) || now[nextAt(p, slot, h)] != m.ref) {
					t.Fatalf("it does not stand between %d and %d at the level %d", pred, m.ref, h)
				}
			}
		}
	}
}

// 21.1: timers that are made in all slots of right plans, and come into the lowest chain and into the higher ones one behind the other, in any order of their deadlines: behind each of them the chain of each level has all so far that are higher than that, and rises.
func TestOneBehindTheOther(t *testing.T) {
	r := rand.New(rand.NewSource(214))
	for _, p := range rightPlans() {
		for range 3 {
			c := made(t, p)
			var l []member
			for _, n := range r.Perm(p.Slots) {
				tall := 1 + r.Intn(p.Levels)
				m := mint.Mint(p, n+1, r.Intn(9), tall)
				task.Play(c, m, 99)
				one := member{ref: m.Ref(), key: m.Key()}
				for h := range tall {
					one.in[h] = true
				}
				l = sorted(append(l, one))
				k := link.Link(p, m.Ref(), m.Key(), tall)
				task.Play(c, k, 9000)
				if got := task.Play(c, Lift(p, m.Ref(), m.Key(), tall, k.Preds(), k.Succs()), 9000); len(got) != 2*(tall-1) {
					t.Fatalf("%v was found, of the height %d", got, tall)
				}
				stand := c.Words()
				for h := range p.Levels {
					all, staying := walk(t, stand, p, h)
					if !slices.EqualFunc(at(l, h), all, func(m member, r uint64) bool { return m.ref == r }) || len(staying) != len(all) {
						t.Fatalf("%v are in the chain of the level %d, not %v", all, h, at(l, h))
					}
					rises(t, stand, p, h)
				}
			}
		}
	}
}

// mark puts the mark on the way on of a slot at a level.
func mark(c *cells.Cells, p api.Plan, slot, level int) {
	way := nextAt(p, slot, level)
	c.Store(way, c.Load(way)|1)
}

// inAt tells whether a slot is in the chain of a level of a memory, with a mark or without.
func inAt(t *testing.T, stand []uint64, p api.Plan, slot, level int) bool {
	t.Helper()
	all, _ := walk(t, stand, p, level)
	return slices.ContainsFunc(all, func(r uint64) bool { return indexOf(r) == slot })
}

// came tells how many chains a slot came into by a step between two memories.
func came(t *testing.T, was, is []uint64, p api.Plan, slot int) int {
	t.Helper()
	n := 0
	for h := range p.Levels {
		if inAt(t, is, p, slot, h) && !inAt(t, was, p, slot, h) {
			n++
		}
	}
	return n
}

// 21.2: a timer that is taken ahead of each step, its ways on being marked from above: it comes into no further chain, but one at most, into none, if it was taken ahead of the first step of a level, and is done then; be the lists right, or old.
func TestTaken(t *testing.T) {
	p := api.Plan{Threads: 1, Slots: 4, Levels: 4}
	l := []member{{ref: ref(1, 1), key: api.Key{Deadline: 3}}, {ref: ref(2, 2), key: api.Key{Deadline: 5}}, {ref: ref(3, 3), key: api.Key{Deadline: 7}}}
	for i, tall := range []int{3, 4, 2} {
		for h := range tall {
			l[i].in[h] = true
		}
	}
	once := 0
	for _, k := range []api.Key{{Deadline: 1}, {Deadline: 4}, {Deadline: 6}, {Deadline: 9}} {
		right, behind := all(p, l, k)
		for _, lists := range [][2][]uint64{{right, behind}, {right, row(4, 78)}, {row(4, 0), row(4, 0)}, {right, {0, behind[1], 78, 78}}} {
			j := job{p, ref(9, 4), k, 4, lists[0], lists[1]}
			stand := made(t, p).Words()
			low(stand, j, l, []uint64{0})
			c := memory(t, stand)
			steps := len(task.Play(c, j.lift(), 99))
			if steps < 6 || !inAt(t, c.Words(), p, 4, 3) {
				t.Fatalf("it is done in %d steps", steps)
			}
			for n := range steps {
				c, fast := memory(t, stand), j.lift()
				told := task.Play(c, fast, n)
				now := j.tale(told)
				for h := 3; h >= 0; h-- {
					mark(c, p, 4, h)
				}
				most := 1
				if now.what == loading || now.what == seeking {
					most = 0
				}
				into := 0
				for range 99 {
					was := c.Words()
					into += came(t, was, stepped(t, c, fast), p, 4)
				}
				ended(t, fast)
				if into > most {
					t.Fatalf("it came into %d further chains, taken ahead of the step %d of %+v", into, n, j)
				}
				once += into
				for h := range 4 {
					rises(t, c.Words(), p, h)
					if _, staying := walk(t, c.Words(), p, h); slices.Contains(staying, j.ref) || len(staying) != len(at(l, h)) {
						t.Fatalf("%v are in the chain of the level %d", staying, h)
					}
				}
			}
		}
	}
	if once < 20 {
		t.Errorf("it came into one further chain %d times only", once)
	}
}

// stepped lets a lifter do one step, and tells the words that stand then.
func stepped(t *testing.T, c *cells.Cells, k *Lifter) []uint64 {
	t.Helper()
	task.Play(c, k, 1)
	return c.Words()
}

// 21.2: a timer whose ways on are marked from above, one ahead of any step and the next one ahead of any later one: it comes into no chain whose way on was marked ahead of the first step of its level, and into one further one at most as soon as all are marked.
func TestTakenInAllOrders(t *testing.T) {
	stand := made(t, three).Words()
	for _, lists := range [][2][]uint64{{row(3, 0), row(3, 0)}, {row(3, 0), row(3, 66)}, {row(3, 0), {0, 0, 66}}} {
		j := job{three, mine, key, 3, lists[0], lists[1]}
		low(stand, j, nil, []uint64{0})
		for first := range 16 {
			for second := first; second < 16; second++ {
				c, fast := memory(t, stand), j.lift()
				var told []uint64
				into := 0
				for n := range 16 {
					if n == first {
						mark(c, three, 3, 2)
					}
					if n == second {
						mark(c, three, 3, 1)
						mark(c, three, 3, 0)
					}
					was := c.Words()
					want := same(t, fast, j, told)
					told = append(told, task.Play(c, fast, 1)...)
					come := came(t, was, c.Words(), three, 3)
					if come > 0 && want.what != hanging {
						t.Fatalf("it came into a chain by %+v", want)
					}
					if n >= second {
						into += come
					}
				}
				if into > 1 {
					t.Fatalf("it came into %d further chains, taken ahead of %d and %d", into, first, second)
				}
				ended(t, fast)
			}
		}
	}
}

// turn is a timer that comes: into the lowest chain, then into the higher ones, with its lifter's job, and what that was told.
type turn struct {
	low   *link.Linker
	fast  *Lifter // nil, as long as it is not in the lowest chain
	job   job
	told  []uint64
	taken bool // whether all its ways on are marked
	into  int  // how many chains it came into since
}

// begin lets the lifter begin, if the timer is in the lowest chain.
func (g *turn) begin() {
	if _, more := g.low.Next(); !more && g.fast == nil {
		g.job.preds, g.job.succs = g.low.Preds(), g.low.Succs()
		g.fast = g.job.lift()
	}
}

// step lets it do one step, that of a lifter being held against what stands by the chapter's sentences, and tells what the lifter came to, and the level into whose chain it came, or -1.
func (g *turn) step(t *testing.T, c *cells.Cells) (now tale, into int) {
	t.Helper()
	if g.fast == nil {
		task.Play(c, g.low, 1)
		g.begin()
		if g.fast == nil {
			return tale{}, -1
		}
		return same(t, g.fast, g.job, nil), 0
	}
	was := same(t, g.fast, g.job, g.told)
	if was.over {
		return was, -1
	}
	stand := c.Words()
	found := slow(stand, was.asked[len(was.asked)-1])
	if got := task.Play(c, g.fast, 1); len(got) != 1 || got[0] != found {
		t.Fatalf("%v was found at one step, not %d", got, found)
	}
	stands(t, c, stand)
	g.told = append(g.told, found)
	now = same(t, g.fast, g.job, g.told)
	if len(now.into) == len(was.into) {
		return now, -1
	}
	if g.taken {
		g.into++
	}
	return now, now.into[len(now.into)-1]
}

// two are two timers, in the slots 1 and 2, that are in the lowest chain, beside one of the deadline 5 in the slot 3, that is in all of them.
func two(t *testing.T, first, second int) (*cells.Cells, []*turn) {
	t.Helper()
	c := made(t, three)
	for h := range 3 {
		c.Store(nextAt(three, 0, h), 6)
	}
	c.Store(deadAt(three, 3), 5)
	var now []*turn
	for i, d := range []int{first, second} {
		j := job{plan: three, ref: ref(0, i+1), key: api.Key{Deadline: d, Seq: uint64(i + 1)}, tall: 3 - i}
		c.Store(deadAt(three, i+1), word(d))
		c.Store(seqAt(three, i+1), uint64(i+1))
		g := &turn{low: link.Link(three, j.ref, j.key, j.tall), job: j}
		task.Play(c, g.low, 99)
		g.begin()
		now = append(now, g)
	}
	return c, now
}

// 21.1: two timers that come to one place, or to two, in all orders of their steps: both are in the chains of all levels below their heights then, which rise, and whoever came between another one's seek and Swap made that one seek anew.
func TestTwoInAllOrders(t *testing.T) {
	again := 0
	for _, d := range [][2]int{{3, 4}, {4, 3}, {4, 4}, {3, 7}, {7, 3}, {7, 8}, {8, 7}, {5, 5}} {
		for order := range 1 << 11 {
			c, now := two(t, d[0], d[1])
			over := [2]bool{}
			for n := 0; !over[0] || !over[1]; n++ {
				i := order >> min(n, 11) & 1
				if over[i] {
					i = 1 - i
				}
				what, _ := now[i].step(t, c)
				over[i] = what.over
			}
			for h := range 3 {
				all, staying := walk(t, c.Words(), three, h)
				if len(all) != []int{3, 3, 2}[h] || len(staying) != len(all) {
					t.Fatalf("%v are in the chain of the level %d, of the deadlines %v, in the order %b", all, h, d, order)
				}
				rises(t, c.Words(), three, h)
			}
			again += now[0].job.tale(now[0].told).again + now[1].job.tale(now[1].told).again
		}
	}
	if again < 1000 {
		t.Errorf("they sought %d times only", again)
	}
}

// crowd is a memory of chains into which timers come, and out of which timers go.
type crowd struct {
	cells *cells.Cells
	plan  api.Plan
	come  []member // who has a key, but does not come yet
	now   []*turn  // who comes
	ended []*turn  // who has come
	goer  int      // the slot of whoever is going out; 0: nobody
	level int      // at which its way on was marked last
	stay  [api.MaxLevels]map[uint64]bool
}

// gather makes a crowd of a right plan, of which each other one is in the chains from the beginning on.
func gather(t *testing.T, r *rand.Rand, p api.Plan) *crowd {
	t.Helper()
	stand := made(t, p).Words()
	g := &crowd{plan: p}
	for h := range p.Levels {
		g.stay[h] = map[uint64]bool{}
	}
	var there []member
	for i, m := range chance(r, p, 0, 4) {
		if i%2 == 1 {
			there = append(there, m)
			for h := range p.Levels {
				if m.in[h] && !m.out[h] {
					g.stay[h][m.ref] = true
				}
			}
			continue
		}
		g.come = append(g.come, m)
		slot := indexOf(m.ref)
		stand[deadAt(p, slot)], stand[seqAt(p, slot)] = word(m.key.Deadline), m.key.Seq
	}
	lay(stand, p, there)
	r.Shuffle(len(g.come), func(i, j int) { g.come[i], g.come[j] = g.come[j], g.come[i] })
	g.cells = memory(t, stand)
	return g
}

// begin lets the next one begin to come.
func (g *crowd) begin(r *rand.Rand) {
	if len(g.come) > 0 {
		m, tall := g.come[0], 1+r.Intn(g.plan.Levels)
		j := job{plan: g.plan, ref: m.ref, key: m.key, tall: tall}
		g.now, g.come = append(g.now, &turn{low: link.Link(g.plan, m.ref, m.key, tall), job: j}), g.come[1:]
	}
}

// leave lets whoever is going out mark its next way on, from above; if nobody is, one of the lowest chain begins to.
func (g *crowd) leave(t *testing.T, r *rand.Rand) {
	t.Helper()
	if g.goer == 0 {
		if _, in := walk(t, g.cells.Words(), g.plan, 0); len(in) > 0 {
			g.goer, g.level = indexOf(in[r.Intn(len(in))]), g.plan.Levels
		}
		return
	}
	g.level--
	mark(g.cells, g.plan, g.goer, g.level)
	for m := range g.stay[g.level] {
		if indexOf(m) == g.goer {
			delete(g.stay[g.level], m)
		}
	}
	if g.level > 0 {
		return
	}
	for _, k := range g.now {
		k.taken = k.taken || indexOf(k.job.ref) == g.goer
	}
	g.goer = 0
}

// step lets one of those that come do one step.
func (g *crowd) step(t *testing.T, r *rand.Rand) {
	t.Helper()
	if len(g.now) == 0 {
		return
	}
	i := r.Intn(len(g.now))
	k := g.now[i]
	now, into := k.step(t, g.cells)
	if into >= 0 && g.cells.Load(nextAt(g.plan, indexOf(k.job.ref), into))%2 == 0 {
		g.stay[into][k.job.ref] = true
	}
	if k.into > 1 {
		t.Fatalf("%d came into %d further chains", k.job.ref, k.into)
	}
	if now.over {
		g.now, g.ended = slices.Delete(g.now, i, i+1), append(g.ended, k)
	}
}

// here asks whether just those that stay are in the chains without a mark, which rise, and whether whoever has come is in all below its height that it has not been marked at.
func (g *crowd) here(t *testing.T) {
	t.Helper()
	stand := g.cells.Words()
	for h := range g.plan.Levels {
		_, in := walk(t, stand, g.plan, h)
		rises(t, stand, g.plan, h)
		if len(in) != len(g.stay[h]) {
			t.Fatalf("%v are in the chain of the level %d, not %v", in, h, g.stay[h])
		}
		for _, r := range in {
			if !g.stay[h][r] || h > 0 && !g.stay[h-1][r] {
				t.Fatalf("%d is in the chain %v of the level %d", r, in, h)
			}
		}
		for _, k := range g.ended {
			r := k.job.ref
			if h < k.job.tall && stand[nextAt(g.plan, indexOf(r), g.plan.Levels-1)]%2 == 0 && !slices.Contains(in, r) {
				t.Fatalf("%d, of the height %d, has come, but is not in the chain %v of the level %d", r, k.job.tall, in, h)
			}
		}
	}
}

// 21.1 and 21.2: several timers that come by turns into chains out of which others, and some of them, go meanwhile: each step is the one that the chapter's sentences say; whoever came is in all chains below its height from then on, till it goes out itself, all chains always rise, none is lost, and whoever was taken comes into one further chain at most.
func TestInTurns(t *testing.T) {
	r := rand.New(rand.NewSource(215))
	again, ends, taken, into := 0, 0, 0, 0
	for _, p := range rightPlans() {
		for range 5 {
			g := gather(t, r, p)
			for len(g.come) > 0 || len(g.now) > 0 {
				switch n := r.Intn(12); {
				case n == 0:
					g.begin(r)
				case n < 3:
					g.leave(t, r)
				default:
					g.step(t, r)
				}
				g.here(t)
			}
			for _, k := range g.ended {
				again += k.job.tale(k.told).again
				ends++
				into += k.into
				if k.taken {
					taken++
				}
			}
		}
	}
	if again < 100 || ends < 1000 || taken < 100 || into < 10 {
		t.Errorf("%d ends, of which %d sought, %d were taken, and %d came into one further chain", ends, again, taken, into)
	}
}
