package seek

import (
	"math"
	"math/rand"
	"slices"
	"testing"

	"sundial/api"
	"sundial/blank"
	"sundial/cells"
	"sundial/plan"
	"sundial/refer"
	"sundial/task"
)

// half is how often a lower half goes into a word: a word is its high half times half, and its low half.
const half = 4294967296

// lastGen and lastIndex are the greatest generation and index that a reference has.
const (
	lastGen   = 4294967295
	lastIndex = 2147483647
)

// words are the edges of a word.
var words = []uint64{0, 1, 2, 3, 4, 5, 6, 7, 128, 129, 130, 131, 1<<31 - 1, 1 << 31, half - 2, half - 1, half, half + 1, half + 2, half + 3, 1<<63 - 1, 1 << 63, 1<<63 + 1, 1<<63 + 2, lastGen * half, lastGen*half + 1, lastGen*half + 2, math.MaxUint64 - 1, math.MaxUint64}

// deadlines and seqs are the edges of a key's parts.
var (
	deadlines = []int{math.MinInt, math.MinInt + 1, -api.MaxTime, -2, -1, 0, 1, 2, 5, api.MaxTime, api.Never, math.MaxInt - 1, math.MaxInt}
	seqs      = []uint64{0, 1, 2, 7, half - 1, half, 1<<63 - 1, 1 << 63, 1<<63 + 1, math.MaxUint64 - 1, math.MaxUint64}
)

// flat and small are plans of which the head's ways on stand from 7 on; of flat the slots' words Dead are at 9 and 16, Seq at 10 and 17, Next at 14 and 21; of small Dead is at 10 and 18, Seq at 11 and 19, Next from 15 and 23 on.
var (
	flat  = api.Plan{Threads: 1, Slots: 2, Levels: 1}
	small = api.Plan{Threads: 1, Slots: 2, Levels: 2}
)

// a and b are references to their slots, and am and bm those with the mark.
const (
	a  = 5*half + 2
	am = 5*half + 3
	b  = 7*half + 4
	bm = 7*half + 5
)

// key is one between all edges.
var key = api.Key{Deadline: 20, Seq: 30}

// rightPlans are such of which each number is the least, one between, or the greatest.
func rightPlans() []api.Plan {
	var l []api.Plan
	for _, threads := range []int{1, 3, 8} {
		for _, slots := range []int{1, 2, 5, 64} {
			for _, levels := range []int{1, 2, 4, 8} {
				l = append(l, api.Plan{Threads: threads, Slots: slots, Levels: levels, Gen: []uint64{0, 1, lastGen}[len(l)%3]})
			}
		}
	}
	return l
}

// wrongPlans are those of which one number alone is none that there is, and those of which several are.
func wrongPlans() []api.Plan {
	l := []api.Plan{{}, {Threads: -1, Slots: -1, Levels: -1}, {Threads: 9, Slots: 65, Levels: 9, Gen: half}, {Threads: math.MaxInt, Slots: math.MaxInt, Levels: math.MaxInt, Gen: math.MaxUint64}, {Threads: math.MinInt, Slots: math.MinInt, Levels: math.MinInt}}
	for _, n := range []int{math.MinInt, math.MinInt + 1, -1<<32 + 2, -64, -1, 0, 9, 65, 1000, 1 << 31, 1<<32 + 2, math.MaxInt - 1, math.MaxInt} {
		l = append(l, api.Plan{Threads: n, Slots: 3, Levels: 3}, api.Plan{Threads: 2, Slots: n, Levels: 3}, api.Plan{Threads: 2, Slots: 3, Levels: n})
	}
	for _, gen := range []uint64{half, half + 1, 1 << 63, math.MaxUint64} {
		l = append(l, api.Plan{Threads: 2, Slots: 3, Levels: 3, Gen: gen})
	}
	return l
}

// allPlans are those that are right, and those that are not.
func allPlans() []api.Plan {
	return append(rightPlans(), wrongPlans()...)
}

// ref puts a reference together.
func ref(gen uint64, index int) uint64 { return gen*half + 2*uint64(index) }

// indexOf tells the index of a reference.
func indexOf(r uint64) int { return int(r % half / 2) }

// firstAt tells where a slot's words begin, by chapter 8's sums; nextAt where its way on at a level stands, the head's of the slot 0; deadAt and seqAt where the timer's deadline and number stand.
func firstAt(p api.Plan, slot int) int { return 4 + 3*p.Threads + p.Levels + (slot-1)*(6+p.Levels) }
func nextAt(p api.Plan, slot, level int) int {
	if slot == 0 {
		return 4 + 3*p.Threads + level
	}
	return firstAt(p, slot) + 6 + level
}
func deadAt(p api.Plan, slot int) int { return firstAt(p, slot) + 1 }
func seqAt(p api.Plan, slot int) int  { return firstAt(p, slot) + 2 }

// Deeds by their kinds, for short.
func read(at int, by uint64) api.Deed { return api.Deed{Kind: 1, At: at, By: by} }
func swap(at int, old, w, by uint64) api.Deed {
	return api.Deed{Kind: 3, At: at, A: old, B: w, By: by}
}

// tale is what a Seek comes to by the chapter's sentences.
type tale struct {
	asked        []api.Deed // one behind the other; the last one is asked for still, if it is not over
	over         bool       // whether it is done
	preds, succs []uint64   // from the level 0 on, if it is over
	again        int        // how often it came to step 1 anew
}

// seekOf tells by the chapter's sentences what Seek of p and k comes to, when it is told l.
func seekOf(p api.Plan, k api.Key, l []uint64) (out tale) {
	told := 0
	ask := func(d api.Deed) (uint64, bool) {
		out.asked = append(out.asked, d)
		if told == len(l) {
			return 0, false
		}
		told++
		return l[told-1], true
	}
	var w, n, d, s, pred, cur, succ uint64
	var h int
	var ok, less bool
	var preds, succs []uint64
one:
	pred, h, preds, succs = 0, p.Levels-1, nil, nil
	if p.Levels <= 0 {
		out.over = true
		return out
	}
two:
	if w, ok = ask(read(nextAt(p, indexOf(pred), h), pred)); !ok {
		return out
	}
	if w%2 == 1 {
		out.again++
		goto one
	}
	cur = w
three:
	if indexOf(cur) == 0 {
		succ = 0
		goto seven
	}
	if n, ok = ask(read(nextAt(p, indexOf(cur), h), cur)); !ok {
		return out
	}
	if n%2 == 1 {
		if w, ok = ask(swap(nextAt(p, indexOf(pred), h), cur, n-1, pred)); !ok {
			return out
		}
		if w != cur {
			out.again++
			goto one
		}
		cur = n - 1
		goto three
	}
	if d, ok = ask(read(deadAt(p, indexOf(cur)), cur)); !ok {
		return out
	}
	less = int(d) < k.Deadline
	if int(d) == k.Deadline {
		if s, ok = ask(read(seqAt(p, indexOf(cur)), cur)); !ok {
			return out
		}
		less = s < k.Seq
	}
	if less {
		pred, cur = cur, n
		goto three
	}
	succ = cur
seven:
	preds, succs = append([]uint64{pred}, preds...), append([]uint64{succ}, succs...)
	if h > 0 {
		h--
		goto two
	}
	out.over, out.preds, out.succs = true, preds, succs
	return out
}

// slow does a deed of chapter 7 to words, and tells what was found.
func slow(stand []uint64, d api.Deed) uint64 {
	if d.At < 0 || d.At >= len(stand) {
		return 0
	}
	was := stand[d.At]
	if d.Kind == 3 && was == d.A {
		stand[d.At] = d.B
	}
	return was
}

// played tells by the chapter's sentences what Seek finds, done alone to words, which are turned; false, if it is not done behind so many steps.
func played(p api.Plan, k api.Key, stand []uint64, most int) ([]uint64, bool) {
	var found []uint64
	for range most {
		now := seekOf(p, k, found)
		if now.over {
			return found, true
		}
		found = append(found, slow(stand, now.asked[len(now.asked)-1]))
	}
	return found, seekOf(p, k, found).over
}

// lists asks whether a seeker tells these lists, again and again, each in new memory.
func lists(t *testing.T, k *Seeker, preds, succs []uint64) {
	t.Helper()
	for range 2 {
		x, y := k.Preds(), k.Succs()
		if !slices.Equal(x, preds) || !slices.Equal(y, succs) {
			t.Fatalf("%v and %v are found, not %v and %v", x, y, preds, succs)
		}
		for i := range x {
			x[i], y[i] = 77, 78
		}
	}
}

// asks asks whether a seeker asks for d, and tells no list, again and again.
func asks(t *testing.T, k *Seeker, d api.Deed) {
	t.Helper()
	for range 3 {
		if got, more := k.Next(); got != d || !more {
			t.Fatalf("%+v is asked for (%v), not %+v", got, more, d)
		}
		lists(t, k, nil, nil)
	}
}

// ended asks whether a seeker is done, tells these lists, and stays so whatever it is told.
func ended(t *testing.T, k *Seeker, preds, succs []uint64) {
	t.Helper()
	for _, found := range []uint64{0, 1, a, am, 20, 30, math.MaxUint64, 0} {
		if got, more := k.Next(); got != (api.Deed{}) || more {
			t.Fatalf("%+v is asked for (%v) by a task that is done", got, more)
		}
		lists(t, k, preds, succs)
		k.Tell(found)
	}
	if got, more := k.Next(); got != (api.Deed{}) || more {
		t.Fatalf("a task that is done went on to %+v (%v)", got, more)
	}
	lists(t, k, preds, succs)
}

// step is a deed that is asked for, and what is told then.
type step struct {
	asked api.Deed
	found uint64
}

// seeks asks whether Seek of p and k asks for the deeds of l, and has found these then.
func seeks(t *testing.T, p api.Plan, k api.Key, preds, succs []uint64, l ...step) {
	t.Helper()
	fast := Seek(p, k)
	for _, s := range l {
		asks(t, fast, s.asked)
		fast.Tell(s.found)
	}
	ended(t, fast, preds, succs)
}

// same asks whether a seeker of p and k that was told l stands where the chapter's sentences say.
func same(t *testing.T, fast *Seeker, p api.Plan, k api.Key, l []uint64) tale {
	t.Helper()
	want := seekOf(p, k, l)
	got, more := fast.Next()
	if more == want.over || want.over && got != (api.Deed{}) || more && got != want.asked[len(want.asked)-1] {
		t.Fatalf("Seek of %+v and %+v, told %v, asks for %+v (%v), not as %+v", p, k, l, got, more, want)
	}
	if x, y := fast.Preds(), fast.Succs(); !slices.Equal(x, want.preds) || !slices.Equal(y, want.succs) {
		t.Fatalf("Seek of %+v and %+v, told %v, found %v and %v, not as %+v", p, k, l, x, y, want)
	}
	return want
}

// made makes the memory at the beginning of a right plan.
func made(t *testing.T, p api.Plan) *cells.Cells {
	t.Helper()
	c, err := blank.Make(p)
	if err != api.OK {
		t.Fatalf("no memory of %+v: %d", p, err)
	}
	return c
}

// memory makes a memory of words.
func memory(t *testing.T, l []uint64) *cells.Cells {
	t.Helper()
	c, err := cells.Of(l)
	if err != api.OK {
		t.Fatal(err)
	}
	return c
}

// stands asks whether a memory has just these words.
func stands(t *testing.T, c *cells.Cells, l []uint64) {
	t.Helper()
	if got := c.Words(); !slices.Equal(got, l) {
		t.Fatalf("%v stand, not %v", got, l)
	}
}

// word is a number as a word.
func word(n int) uint64 { return uint64(n) }

// 18.1: the chapter's example, in numbers and done alone; and of each number of levels, as many steps as there are.
func TestExample(t *testing.T) {
	p := api.Plan{Threads: 1, Slots: 3, Levels: 3}
	seeks(t, p, key, []uint64{0, 0, 0}, []uint64{0, 0, 0}, step{read(9, 0), 0}, step{read(8, 0), 0}, step{read(7, 0), 0})
	for _, p := range rightPlans() {
		c := made(t, p)
		stand, none := c.Words(), make([]uint64, p.Levels)
		k := Seek(p, key)
		if l := task.Play(c, k, 99); !slices.Equal(l, none) {
			t.Fatalf("%v was found at the beginning of %+v", l, p)
		}
		ended(t, k, none, none)
		stands(t, c, stand)
	}
}

// 18.1: each deed in the names of api's, of layer 2 and of layer 8.
func TestDeedsByName(t *testing.T) {
	p := api.Plan{Threads: 2, Slots: 3, Levels: 2, Gen: 9}
	x, y := refer.Of(3, 1), refer.Of(4, 3)
	seeks(t, p, api.Key{Deadline: 8, Seq: 5}, []uint64{x, 0}, []uint64{0, y},
		step{api.Deed{Kind: api.Load, At: plan.Next(p, 0, 1)}, x},
		step{api.Deed{Kind: api.Load, At: plan.Next(p, 1, 1), By: x}, refer.Mark(y)},
		step{api.Deed{Kind: api.Swap, At: plan.Next(p, 0, 1), A: x, B: y}, x},
		step{api.Deed{Kind: api.Load, At: plan.Next(p, 3, 1), By: y}, 0},
		step{api.Deed{Kind: api.Load, At: plan.Dead(p, 3), By: y}, 9},
		step{api.Deed{Kind: api.Load, At: plan.Next(p, 0, 0)}, x},
		step{api.Deed{Kind: api.Load, At: plan.Next(p, 1, 0), By: x}, y},
		step{api.Deed{Kind: api.Load, At: plan.Dead(p, 1), By: x}, 8},
		step{api.Deed{Kind: api.Load, At: plan.Seq(p, 1), By: x}, 4},
		step{api.Deed{Kind: api.Load, At: plan.Next(p, 3, 0), By: y}, refer.Mark(0)},
		step{api.Deed{Kind: api.Swap, At: plan.Next(p, 1, 0), A: y, B: 0, By: x}, y})
}

// 18.1: of no level it is done at once, whatever the plan says else, and finds nothing.
func TestNoLevel(t *testing.T) {
	for _, levels := range []int{0, -1, -2, -1 << 32, -1<<32 + 2, math.MinInt + 1, math.MinInt} {
		for _, n := range []int{1, 3, 0, -1, math.MaxInt, math.MinInt} {
			p := api.Plan{Threads: n, Slots: n, Levels: levels}
			seeks(t, p, key, nil, nil)
			c := made(t, small)
			stand := c.Words()
			if l := task.Play(c, Seek(p, key), 9); len(l) != 0 {
				t.Fatalf("%v was found of no level", l)
			}
			stands(t, c, stand)
		}
	}
}

// 18.1: a chain with one slot that is less, or is not, by its Deadline; just if that is the key's is its Seq loaded.
func TestDeadlines(t *testing.T) {
	for _, mine := range deadlines {
		for _, d := range deadlines {
			k := api.Key{Deadline: mine, Seq: 30}
			l := []step{{read(7, 0), a}, {read(14, a), 0}, {read(9, a), word(d)}}
			switch {
			case d < mine:
				seeks(t, flat, k, []uint64{a}, []uint64{0}, l...)
			case d > mine:
				seeks(t, flat, k, []uint64{0}, []uint64{a}, l...)
			default:
				seeks(t, flat, k, []uint64{0}, []uint64{a}, append(l, step{read(10, a), 31})...)
				seeks(t, flat, k, []uint64{0}, []uint64{a}, append(l, step{read(10, a), 30})...)
				seeks(t, flat, k, []uint64{a}, []uint64{0}, append(l, step{read(10, a), 29})...)
			}
		}
	}
}

// 18.1: a Deadline that is the key's, and Seq of all edges: a number without a sign.
func TestSeqs(t *testing.T) {
	for _, d := range deadlines {
		for _, mine := range seqs {
			for _, s := range seqs {
				preds, succs := []uint64{0}, []uint64{a}
				if s < mine {
					preds, succs = []uint64{a}, []uint64{0}
				}
				seeks(t, flat, api.Key{Deadline: d, Seq: mine}, preds, succs, step{read(7, 0), a}, step{read(14, a), 0}, step{read(9, a), word(d)}, step{read(10, a), s})
			}
		}
	}
}

// 18.1: of two slots the one that is less is passed, and its way on, not the one of the head, is loaded at the level below.
func TestLevelBelowGoesOnFromPred(t *testing.T) {
	seeks(t, small, key, []uint64{b, a}, []uint64{0, 0},
		step{read(8, 0), a}, step{read(16, a), 0}, step{read(10, a), 19},
		step{read(15, a), b}, step{read(23, b), 0}, step{read(18, b), 20}, step{read(19, b), 29})
	seeks(t, small, key, []uint64{b, b}, []uint64{0, 0},
		step{read(8, 0), a}, step{read(16, a), b}, step{read(10, a), 19}, step{read(24, b), 0}, step{read(18, b), 19},
		step{read(23, b), 0})
	seeks(t, small, key, []uint64{0, 0}, []uint64{b, a},
		step{read(8, 0), a}, step{read(16, a), b}, step{read(10, a), 21},
		step{read(7, 0), b}, step{read(23, b), a}, step{read(18, b), 22})
	seeks(t, small, key, []uint64{a, 0}, []uint64{b, 0},
		step{read(8, 0), 0},
		step{read(7, 0), a}, step{read(15, a), b}, step{read(10, a), word(-5)}, step{read(23, b), 0}, step{read(18, b), 20}, step{read(19, b), 30})
}

// 18.1: what is none ends a chain, whatever its generation, be it behind the head, behind a slot, or behind one that is taken out; 0 is what is found then.
func TestNone(t *testing.T) {
	for _, gen := range []uint64{0, 1, 5, 1 << 31, lastGen} {
		none := gen * half
		seeks(t, flat, key, []uint64{0}, []uint64{0}, step{read(7, 0), none})
		seeks(t, flat, key, []uint64{a}, []uint64{0}, step{read(7, 0), a}, step{read(14, a), none}, step{read(9, a), 19})
		seeks(t, flat, key, []uint64{0}, []uint64{a}, step{read(7, 0), a}, step{read(14, a), none}, step{read(9, a), 21})
		seeks(t, flat, key, []uint64{0}, []uint64{0}, step{read(7, 0), a}, step{read(14, a), none + 1}, step{swap(7, a, none, 0), a})
		seeks(t, small, key, []uint64{a, a}, []uint64{0, 0}, step{read(8, 0), a}, step{read(16, a), none}, step{read(10, a), 0}, step{read(15, a), none})
	}
}

// 18.1: references of all generations and indexes that there are lead to the words at the places of chapter 8's sums, be there such a slot or not.
func TestReferences(t *testing.T) {
	for _, p := range allPlans() {
		if p.Levels <= 0 {
			continue
		}
		top := p.Levels - 1
		for _, gen := range []uint64{0, 1, 1 << 31, lastGen} {
			for _, slot := range []int{1, 2, p.Slots, p.Slots + 1, 64, 65, 1 << 30, lastIndex} {
				if slot < 1 || slot > lastIndex {
					continue
				}
				r := ref(gen, slot)
				k := Seek(p, key)
				for _, s := range []step{
					{read(nextAt(p, 0, top), 0), r}, {read(nextAt(p, slot, top), r), b}, {read(deadAt(p, slot), r), 20}, {read(seqAt(p, slot), r), 29},
					{read(nextAt(p, 2, top), b), am}, {swap(nextAt(p, slot, top), b, a, r), b}, {read(nextAt(p, 1, top), a), 0},
				} {
					asks(t, k, s.asked)
					k.Tell(s.found)
				}
				asks(t, k, read(deadAt(p, 1), a))
			}
		}
	}
}

// 18.1: the way on of pred is marked: it begins anew at the head of the highest level, and forgets what was found.
func TestMarkedWayOnOfPred(t *testing.T) {
	for _, marked := range []uint64{1, am, bm, 3, half + 1, math.MaxUint64} {
		seeks(t, flat, key, []uint64{0}, []uint64{0}, step{read(7, 0), marked}, step{read(7, 0), marked}, step{read(7, 0), marked}, step{read(7, 0), 0})
		// The head of the highest level, then of the level below, then a slot.
		seeks(t, small, key, []uint64{0, 0}, []uint64{b, 0},
			step{read(8, 0), marked},
			step{read(8, 0), a}, step{read(16, a), 0}, step{read(10, a), 21},
			step{read(7, 0), marked},
			step{read(8, 0), a}, step{read(16, a), 0}, step{read(10, a), 19},
			step{read(15, a), marked},
			step{read(8, 0), 0},
			step{read(7, 0), b}, step{read(23, b), a}, step{read(18, b), 20}, step{read(19, b), 30})
	}
}

// 18.1: cur is going out at the beginning, in the middle, and at the end of a chain, and several are, one behind the other.
func TestMarkedWayOnOfCur(t *testing.T) {
	seeks(t, flat, key, []uint64{0}, []uint64{b}, step{read(7, 0), a}, step{read(14, a), bm}, step{swap(7, a, b, 0), a}, step{read(21, b), 0}, step{read(16, b), 21})
	seeks(t, flat, key, []uint64{b}, []uint64{0}, step{read(7, 0), a}, step{read(14, a), bm}, step{swap(7, a, b, 0), a}, step{read(21, b), 0}, step{read(16, b), 19})
	seeks(t, flat, key, []uint64{a}, []uint64{0}, step{read(7, 0), a}, step{read(14, a), b}, step{read(9, a), 19}, step{read(21, b), 1}, step{swap(14, b, 0, a), b})
	seeks(t, flat, key, []uint64{0}, []uint64{0}, step{read(7, 0), a}, step{read(14, a), bm}, step{swap(7, a, b, 0), a}, step{read(21, b), 1}, step{swap(7, b, 0, 0), b})
	p := api.Plan{Threads: 1, Slots: 6, Levels: 1}
	r := func(slot int) uint64 { return ref(lastGen, slot) }
	// 2, 3 and 5 are going out; 1 and 4 are less; 6 is not.
	seeks(t, p, key, []uint64{r(4)}, []uint64{r(6)},
		step{read(7, 0), r(1)}, step{read(14, r(1)), r(2)}, step{read(9, r(1)), 1},
		step{read(21, r(2)), r(3) + 1}, step{swap(14, r(2), r(3), r(1)), r(2)},
		step{read(28, r(3)), r(4) + 1}, step{swap(14, r(3), r(4), r(1)), r(3)},
		step{read(35, r(4)), r(5)}, step{read(30, r(4)), 2},
		step{read(42, r(5)), r(6) + 1}, step{swap(35, r(5), r(6), r(4)), r(5)},
		step{read(49, r(6)), 0}, step{read(44, r(6)), 99})
}

// 18.1: at each level slots are taken out, and of one that is less at a higher level the words are loaded anew at a lower one.
func TestMarkedAtEachLevel(t *testing.T) {
	seeks(t, small, key, []uint64{0, 0}, []uint64{b, b},
		step{read(8, 0), a}, step{read(16, a), bm}, step{swap(8, a, b, 0), a}, step{read(24, b), 0}, step{read(18, b), 21},
		step{read(7, 0), a}, step{read(15, a), bm}, step{swap(7, a, b, 0), a}, step{read(23, b), 0}, step{read(18, b), 21})
	seeks(t, small, key, []uint64{a, a}, []uint64{0, 0},
		step{read(8, 0), a}, step{read(16, a), b}, step{read(10, a), 19}, step{read(24, b), 1}, step{swap(16, b, 0, a), b},
		step{read(15, a), b}, step{read(23, b), 1}, step{swap(15, b, 0, a), b})
}

// 18.1: a Swap that finds any other word than cur, be it cur with a mark or of another generation, begins anew, again and again, and what was found is forgotten; at the highest level.
func TestSwapFindsAnotherWord(t *testing.T) {
	for _, other := range append([]uint64{a + 1, a - 2, a + 2, a + half, a - half, a % half, b, bm}, words...) {
		try := []step{{read(7, 0), a}, {read(14, a), bm}, {swap(7, a, b, 0), other}}
		end := []step{{read(7, 0), a}, {read(14, a), bm}, {swap(7, a, b, 0), a}, {read(21, b), 0}, {read(16, b), 21}}
		seeks(t, flat, key, []uint64{0}, []uint64{b}, slices.Concat(try, end)...)
		seeks(t, flat, key, []uint64{0}, []uint64{b}, slices.Concat(try, try, try, end)...)
		seeks(t, flat, key, []uint64{0}, []uint64{0}, slices.Concat(try, []step{{read(7, 0), 0}})...)
	}
}

// 18.1: the same at a lower level: it begins anew at the highest one, whatever was found there ahead of that.
func TestSwapFindsAnotherWordBelow(t *testing.T) {
	for _, other := range append([]uint64{b + 1, b - 2, b + 2, b + half, b - half, b % half, a, am}, words...) {
		try := []step{
			{read(8, 0), a}, {read(16, a), 0}, {read(10, a), 19},
			{read(15, a), b}, {read(23, b), 1}, {swap(15, b, 0, a), other},
		}
		end := slices.Clone(try)
		end[5].found = b
		seeks(t, small, key, []uint64{a, a}, []uint64{0, 0}, slices.Concat(try, end)...)
		seeks(t, small, key, []uint64{a, a}, []uint64{0, 0}, slices.Concat(try, try, try, end)...)
		seeks(t, small, key, []uint64{0, 0}, []uint64{a, b}, slices.Concat(try, []step{
			{read(8, 0), b}, {read(24, b), 0}, {read(18, b), 22},
			{read(7, 0), a}, {read(15, a), b}, {read(10, a), 21},
		})...)
	}
}

// 18.1: each bit of cur counts where the Swap is held against what it asked for.
func TestSwapHoldsTheWholeReference(t *testing.T) {
	for _, r := range []uint64{2, a, b, ref(lastGen, lastIndex), ref(0, lastIndex), ref(lastGen, 1)} {
		for bit := range 64 {
			k := Seek(small, key)
			for _, found := range []uint64{r, am, r ^ 1<<bit} {
				k.Tell(found)
			}
			asks(t, k, read(8, 0))
		}
	}
}

// 18.1: it goes on as long as its Swap finds another word, or the head's way on is marked, again and again, and keeps nothing of that.
func TestAgainAndAgain(t *testing.T) {
	k := Seek(small, key)
	for n := range uint64(5000) {
		x, y := ref(n, 1), ref(n+1, 2)
		for _, s := range []step{
			{read(8, 0), x}, {read(16, x), 0}, {read(10, x), n % 20},
			{read(15, x), y}, {read(23, y), n*half + 1}, {swap(15, y, n*half, x), y + 1 - n%2*2},
			{read(8, 0), y + 1},
			{read(8, 0), x}, {read(16, x), y + 1}, {swap(8, x, y, 0), n},
		} {
			asks(t, k, s.asked)
			k.Tell(s.found)
		}
	}
	asks(t, k, read(8, 0))
	k.Tell(0)
	k.Tell(0)
	ended(t, k, []uint64{0, 0}, []uint64{0, 0})
}

// 18.1: a way of chains that leads back to where it was is gone on with as long as it is less.
func TestChainThatGoesRound(t *testing.T) {
	k := Seek(flat, key)
	asks(t, k, read(7, 0))
	k.Tell(a)
	for range 5000 {
		for _, s := range []step{{read(14, a), b}, {read(9, a), 19}, {read(21, b), a}, {read(16, b), 20}, {read(17, b), 29}} {
			asks(t, k, s.asked)
			k.Tell(s.found)
		}
	}
	asks(t, k, read(14, a))
	k.Tell(a)
	asks(t, k, read(9, a))
	k.Tell(20)
	asks(t, k, read(10, a))
	k.Tell(30)
	ended(t, k, []uint64{b}, []uint64{a})
}

// choices are words that may be found by a deed: those that the chapter tells apart, and others.
func choices(d api.Deed, p api.Plan, k api.Key) []uint64 {
	if d.Kind == 3 {
		return []uint64{d.A, d.A + 1, d.B, 0}
	}
	if slot := indexOf(d.By); slot != 0 {
		switch d.At {
		case deadAt(p, slot):
			return []uint64{word(k.Deadline - 1), word(k.Deadline), word(k.Deadline + 1)}
		case seqAt(p, slot):
			return []uint64{k.Seq - 1, k.Seq, k.Seq + 1}
		}
	}
	return []uint64{0, 1, a, am, b, bm, 9 * half, 9*half + 1}
}

// 18.1: whatever of the words that the chapter tells apart is found at each of the first steps, it goes on as the chapter's sentences say.
func TestWhateverIsFound(t *testing.T) {
	for _, p := range []api.Plan{flat, small, {Threads: 2, Slots: 2, Levels: 3}} {
		for _, k := range []api.Key{{}, key, {Deadline: -7, Seq: 1 << 63}, {Deadline: math.MinInt, Seq: math.MaxUint64}} {
			var l []uint64
			var fill func()
			fill = func() {
				fast := Seek(p, k)
				for _, found := range l {
					fast.Tell(found)
				}
				want := same(t, fast, p, k, l)
				if want.over || len(l) == 6 {
					return
				}
				for _, found := range choices(want.asked[len(want.asked)-1], p, k) {
					l = append(l, found)
					fill()
					l = l[:len(l)-1]
				}
			}
			fill()
		}
	}
}

// 18.1: words of chance, of which most are such as the chapter tells apart, of all plans, and of keys of the edges and of chance.
func TestWordsOfChance(t *testing.T) {
	r := rand.New(rand.NewSource(18))
	again, over := 0, 0
	for _, p := range allPlans() {
		for range 400 {
			k := api.Key{Deadline: deadlines[r.Intn(len(deadlines))], Seq: seqs[r.Intn(len(seqs))]}
			if r.Intn(2) == 0 {
				k = api.Key{Deadline: int(r.Uint64()), Seq: r.Uint64()}
			}
			fast := Seek(p, k)
			var l []uint64
			for range r.Intn(60) {
				want := same(t, fast, p, k, l)
				if want.over {
					break
				}
				some := choices(want.asked[len(want.asked)-1], p, k)
				found := some[r.Intn(len(some))]
				switch r.Intn(12) {
				case 0:
					found = words[r.Intn(len(words))]
				case 1:
					found = r.Uint64()
				case 2:
					found = ref(uint64(r.Uint32()), r.Intn(70)) + uint64(r.Intn(2))
				}
				fast.Tell(found)
				l = append(l, found)
			}
			want := same(t, fast, p, k, l)
			again += want.again
			if want.over && p.Levels > 1 {
				over++
			}
		}
	}
	if again < 10000 || over < 5000 {
		t.Errorf("it came to step 1 anew %d times only, and to its end %d times", again, over)
	}
}

// 18.1: asking changes nothing, however often, and neither do Preds and Succs.
func TestAskingChangesNothing(t *testing.T) {
	k := Seek(small, key)
	for _, s := range []step{
		{read(8, 0), a}, {read(16, a), 0}, {read(10, a), 20}, {read(11, a), 30},
		{read(7, 0), b}, {read(23, b), am}, {swap(7, b, a, 0), b}, {read(15, a), 0}, {read(10, a), 20}, {read(11, a), 29},
	} {
		for range 300 {
			asks(t, k, s.asked)
		}
		k.Tell(s.found)
	}
	for range 100 {
		ended(t, k, []uint64{a, 0}, []uint64{0, a})
	}
}

// 18.1: a task is told ahead of being asked, and goes on all the same.
func TestTellAheadOfNext(t *testing.T) {
	told := []uint64{a, 0, 20, 29, 1, a, bm, a, 0, 21, a, 0, 19}
	want := []api.Deed{read(8, 0), read(16, a), read(10, a), read(11, a), read(15, a), read(8, 0), read(16, a), swap(8, a, b, 0), read(24, b), read(18, b), read(7, 0), read(15, a), read(10, a)}
	for n := range told {
		k := Seek(small, key)
		for _, found := range told[:n] {
			k.Tell(found)
		}
		asks(t, k, want[n])
	}
	k := Seek(small, key)
	for _, found := range told {
		k.Tell(found)
	}
	ended(t, k, []uint64{a, 0}, []uint64{0, b})
}

// 18.1 and R7: a seeker that is nil, or that no call made, is done, stays so, does nothing, and has found nothing.
func TestTasksThatNoCallMade(t *testing.T) {
	var none *Seeker
	for _, k := range []*Seeker{none, {}, new(Seeker)} {
		ended(t, k, nil, nil)
		for _, w := range words {
			k.Tell(w)
			ended(t, k, nil, nil)
		}
		c := made(t, small)
		was := c.Words()
		if l := task.Play(c, k, 9); len(l) != 0 {
			t.Errorf("%v was found", l)
		}
		stands(t, c, was)
	}
}

// 18.1: each seeker goes its own way, of the same plan and key and of others.
func TestTasksAreApart(t *testing.T) {
	x, y, other := Seek(small, key), Seek(small, key), Seek(flat, api.Key{Deadline: 1})
	x.Tell(a)
	asks(t, y, read(8, 0))
	asks(t, other, read(7, 0))
	y.Tell(b)
	other.Tell(b)
	asks(t, x, read(16, a))
	asks(t, y, read(24, b))
	asks(t, other, read(21, b))
	x.Tell(0)
	y.Tell(1)
	other.Tell(0)
	asks(t, x, read(10, a))
	asks(t, y, swap(8, b, 0, 0))
	asks(t, other, read(16, b))
	other.Tell(0)
	ended(t, other, []uint64{b}, []uint64{0})
	x.Tell(19)
	y.Tell(b)
	asks(t, x, read(15, a))
	asks(t, y, read(7, 0))
	x.Tell(0)
	ended(t, x, []uint64{a, a}, []uint64{0, 0})
	y.Tell(0)
	ended(t, y, []uint64{0, 0}, []uint64{0, 0})
}

// 18.1 and R4: a list that was told is the asker's own: whoever changes it, or puts more behind it, changes no other one.
func TestListsAreNew(t *testing.T) {
	k := Seek(small, key)
	for _, found := range []uint64{a, b, 19, 0, 21, b, 0, 22} {
		k.Tell(found)
	}
	preds, succs := k.Preds(), k.Succs()
	more := k.Preds()
	for _, l := range [][]uint64{preds, succs} {
		l[0], l[1] = 5, 6
		l = append(l[:0], 7, 8, 9)
		l = l[:cap(l)]
		for i := range l {
			l[i] = 10
		}
	}
	if !slices.Equal(more, []uint64{a, a}) {
		t.Errorf("a list became %v", more)
	}
	ended(t, k, []uint64{a, a}, []uint64{b, b})
}

// 18.1: where there is no memory each deed finds 0: so each level is found to be without a slot.
func TestNoMemory(t *testing.T) {
	for _, c := range []*cells.Cells{nil, new(cells.Cells)} {
		for _, p := range allPlans() {
			k := Seek(p, key)
			if p.Levels > 1000 {
				if l := task.Play(c, k, 2000); len(l) != 2000 {
					t.Fatalf("Seek of %+v is done behind %d steps", p, len(l))
				}
				asks(t, k, read(nextAt(p, 0, p.Levels-2001), 0))
				continue
			}
			none := make([]uint64, max(p.Levels, 0))
			if l := task.Play(c, k, 2000); !slices.Equal(l, none) {
				t.Fatalf("%v was found of no memory", l)
			}
			ended(t, k, none, none)
		}
	}
}

// 18.1: of more levels than there may be it goes on for as many as the plan says, and finds something for each.
func TestMoreLevelsThanThereMayBe(t *testing.T) {
	for _, levels := range []int{9, 64, 1000, 70000} {
		p := api.Plan{Threads: 1, Slots: 1, Levels: levels}
		k := Seek(p, key)
		var preds, succs []uint64
		for n := range levels {
			r := ref(uint64(n), 1)
			k.Tell(r)
			k.Tell(0)
			k.Tell(word(19 + n%2*2))
			preds, succs = append(preds, 0), append(succs, r)
			if n%2 == 0 {
				preds[n], succs[n] = r, 0
			} else {
				preds[n] = preds[n-1]
			}
		}
		slices.Reverse(preds)
		slices.Reverse(succs)
		ended(t, k, preds, succs)
	}
}

// 18.1: of plans that are not right, and of memories of any words, the words that there are turn as the steps say, wherever the sums put them.
func TestAnyMemory(t *testing.T) {
	r := rand.New(rand.NewSource(181))
	for _, p := range allPlans() {
		for range 40 {
			l := make([]uint64, r.Intn(120))
			for at := range l {
				l[at] = ref(uint64(r.Intn(2)), r.Intn(6)) + uint64(r.Intn(8)/7)
				if r.Intn(9) == 0 {
					l[at] = words[r.Intn(len(words))]
				}
			}
			k := api.Key{Deadline: r.Intn(10), Seq: uint64(r.Intn(10))}
			c, fast := memory(t, l), Seek(p, k)
			found, over := played(p, k, l, 60)
			if got := task.Play(c, fast, 60); !slices.Equal(got, found) {
				t.Fatalf("%v was found, not %v", got, found)
			}
			stands(t, c, l)
			if want := same(t, fast, p, k, found); want.over != over {
				t.Fatalf("over is %v", want.over)
			}
		}
	}
}

// member is a slot that is in chains: its reference, its key, whether it is in the chain of a level, and whether it is going out of it.
type member struct {
	ref     uint64
	key     api.Key
	in, out [api.MaxLevels]bool
}

// less tells whether a key is less than another one, by chapter 3's sentence.
func less(x, y api.Key) bool {
	return x.Deadline < y.Deadline || x.Deadline == y.Deadline && x.Seq < y.Seq
}

// sorted sorts members by their keys, of which none is there twice.
func sorted(l []member) []member {
	slices.SortFunc(l, func(x, y member) int {
		if less(x.key, y.key) {
			return -1
		}
		return 1
	})
	return l
}

// at tells those of l, sorted, that are in the chain of a level.
func at(l []member, level int) []member {
	var in []member
	for _, m := range l {
		if m.in[level] {
			in = append(in, m)
		}
	}
	return in
}

// lay lays the chains of sorted members on the words of a plan, each way on of which the slot is going out of the chain with a mark.
func lay(stand []uint64, p api.Plan, l []member) {
	for _, m := range l {
		stand[deadAt(p, indexOf(m.ref))], stand[seqAt(p, indexOf(m.ref))] = word(m.key.Deadline), m.key.Seq
	}
	for h := range p.Levels {
		from, mark := 0, uint64(0)
		for _, m := range append(at(l, h), member{}) {
			stand[nextAt(p, from, h)] = m.ref + mark
			from, mark = indexOf(m.ref), 0
			if m.out[h] {
				mark = 1
			}
		}
	}
}

// walk tells those that stand in the chain of a level of a memory, from the head on, and which of them are there without a mark.
func walk(t *testing.T, stand []uint64, p api.Plan, level int) (all, staying []uint64) {
	t.Helper()
	w := stand[nextAt(p, 0, level)]
	for n := 0; w%half > 1; n++ {
		if n > p.Slots {
			t.Fatalf("the chain of the level %d does not end", level)
		}
		r := w - w%2
		w = stand[nextAt(p, indexOf(r), level)]
		all = append(all, r)
		if w%2 == 0 {
			staying = append(staying, r)
		}
	}
	return all, staying
}

// places tells by 18.2 what is found at a level: the last one without a mark that is less than the key, and the first one without a mark that is not.
func places(l []member, level int, k api.Key) (pred, succ uint64) {
	for _, m := range at(l, level) {
		switch {
		case m.out[level]:
		case less(m.key, k):
			pred = m.ref
		case succ == 0:
			succ = m.ref
		}
	}
	return pred, succ
}

// keyOf tells the key of a reference among members.
func keyOf(l []member, r uint64) api.Key {
	i := slices.IndexFunc(l, func(m member) bool { return m.ref == r })
	return l[i].key
}

// passed tells those of sorted members that stand in the chain of a level when it was gone through from the slot of one reference, or from the head, up to another one, or the end: whoever is going out between them is there no more.
func passed(l []member, level int, from, to uint64) []member {
	var left []member
	for _, m := range l {
		between := (from == 0 || less(keyOf(l, from), m.key)) && (to == 0 || less(m.key, keyOf(l, to)))
		if m.in[level] && m.out[level] && between {
			m.in[level] = false
		}
		left = append(left, m)
	}
	return left
}

// alone does a Seek alone to the chains of sorted members, and asks whether it finds just what 18.2 says, and turns just those words that lead to one that is taken out.
func alone(t *testing.T, p api.Plan, l []member, k api.Key) {
	t.Helper()
	c := made(t, p)
	stand := c.Words()
	lay(stand, p, l)
	c = memory(t, stand)
	fast := Seek(p, k)
	got := task.Play(c, fast, 5000)
	now := c.Words()
	var preds, succs []uint64
	left, from := l, uint64(0)
	for h := range p.Levels {
		pred, succ := places(l, h, k)
		preds, succs = append(preds, pred), append(succs, succ)
		if way := now[nextAt(p, indexOf(pred), h)]; way != succ {
			t.Fatalf("the way on of %d leads to %d, not to %d, at the level %d", pred, way, succ, h)
		}
		_, before := walk(t, stand, p, h)
		if _, behind := walk(t, now, p, h); !slices.Equal(before, behind) {
			t.Fatalf("%v are in the chain of the level %d, not %v", behind, h, before)
		}
	}
	ended(t, fast, preds, succs)
	for h := p.Levels - 1; h >= 0; h-- {
		left = passed(left, h, from, succs[h])
		from = preds[h]
	}
	want := slices.Clone(stand)
	lay(want, p, left)
	stands(t, c, want)
	found, over := played(p, k, stand, 5000)
	if !over || !slices.Equal(got, found) {
		t.Fatalf("%v was found, not %v", got, found)
	}
}

// 18.2: done alone, in all chains of three slots and two levels that the chapter tells apart (in each chain, not in it, going out of it), in all their orders, of each key that is less, that stands there, that is between, or that is greater.
func TestAloneInAllSmallChains(t *testing.T) {
	p := api.Plan{Threads: 1, Slots: 3, Levels: 2}
	keys := []api.Key{{Deadline: -1, Seq: 9}, {Deadline: 4, Seq: 4}, {Deadline: 4, Seq: 8}}
	asked := slices.Concat(keys, []api.Key{{Deadline: -2, Seq: 99}, {Deadline: -1, Seq: 8}, {Deadline: 0, Seq: 0}, {Deadline: 4, Seq: 5}, {Deadline: 4, Seq: 9}, {Deadline: math.MaxInt}})
	// Of two levels, from the lower one on: in the chain (1), going out of it (2), or not in it (0). Whoever stays in the higher one stays in the lower one too.
	ways := [][2]int{{0, 0}, {1, 0}, {2, 0}, {0, 2}, {1, 2}, {2, 2}, {1, 1}}
	for _, order := range [][]int{{1, 2, 3}, {1, 3, 2}, {2, 1, 3}, {2, 3, 1}, {3, 1, 2}, {3, 2, 1}} {
		for n := range 343 {
			l := make([]member, 3)
			for i, way := range []int{n / 49, n / 7 % 7, n % 7} {
				l[i] = member{ref: ref(uint64(i)*lastGen/2, order[i]), key: keys[i]}
				for h, state := range ways[way] {
					l[i].in[h], l[i].out[h] = state != 0, state == 2
				}
			}
			for _, k := range asked {
				alone(t, p, l, k)
			}
		}
	}
}

// chance makes sorted members of chance of a plan, of which in the mean one of so many is going out of chains.
func chance(r *rand.Rand, p api.Plan, outs int) []member {
	var l []member
	seen := map[api.Key]bool{}
	for slot := 1; slot <= p.Slots; slot++ {
		k := api.Key{Deadline: r.Intn(9) - 4, Seq: uint64(r.Intn(9))}
		if r.Intn(4) == 0 {
			k = api.Key{Deadline: deadlines[r.Intn(len(deadlines))], Seq: seqs[r.Intn(len(seqs))]}
		}
		if seen[k] || r.Intn(8) == 0 {
			continue
		}
		seen[k] = true
		m := member{ref: ref([]uint64{0, 1, uint64(r.Uint32()), lastGen}[r.Intn(4)], slot), key: k}
		tall := 1 + r.Intn(p.Levels)
		stay := tall
		if r.Intn(outs) == 0 {
			stay = r.Intn(tall + 1)
		}
		for h := range tall {
			m.out[h] = h >= stay
			m.in[h] = h < stay || r.Intn(3) > 0
		}
		l = append(l, m)
	}
	return sorted(l)
}

// keysOf are keys that stand there, and their neighbours, and the edges.
func keysOf(r *rand.Rand, l []member) []api.Key {
	all := []api.Key{{Deadline: math.MinInt}, {Deadline: math.MaxInt, Seq: math.MaxUint64}, {}}
	for _, m := range l {
		k := m.key
		all = append(all, k, api.Key{Deadline: k.Deadline, Seq: k.Seq + 1}, api.Key{Deadline: k.Deadline, Seq: k.Seq - 1}, api.Key{Deadline: k.Deadline + 1, Seq: k.Seq}, api.Key{Deadline: k.Deadline - 1, Seq: k.Seq})
	}
	r.Shuffle(len(all), func(i, j int) { all[i], all[j] = all[j], all[i] })
	return all[:min(len(all), 12)]
}

// 18.2: done alone, in chains of chance of all right plans, of one slot and of many, with none going out, with some, and with all.
func TestAloneInChainsOfChance(t *testing.T) {
	r := rand.New(rand.NewSource(182))
	for _, p := range rightPlans() {
		for _, outs := range []int{1, 2, 5, 1 << 30} {
			for range 5 {
				l := chance(r, p, outs)
				for _, k := range keysOf(r, l) {
					alone(t, p, l, k)
				}
			}
		}
	}
}

// 18.2: done again behind that, it finds the same, and turns no word.
func TestAloneAgain(t *testing.T) {
	r := rand.New(rand.NewSource(183))
	for _, p := range rightPlans() {
		l := chance(r, p, 2)
		for _, k := range keysOf(r, l) {
			stand := made(t, p).Words()
			lay(stand, p, l)
			c := memory(t, stand)
			first := Seek(p, k)
			task.Play(c, first, 5000)
			stand = c.Words()
			second := Seek(p, k)
			task.Play(c, second, 5000)
			ended(t, second, first.Preds(), first.Succs())
			stands(t, c, stand)
		}
	}
}

// turn is a seeker under way: its key, and what it was told.
type turn struct {
	fast *Seeker
	key  api.Key
	told []uint64
}

// meddle does to a plan's memory what others do to the chains meanwhile: a way on gets a mark, leads past the slot behind it, or to another slot, or a slot becomes another timer's.
func meddle(r *rand.Rand, c *cells.Cells, p api.Plan, l []member) {
	if len(l) == 0 {
		return
	}
	x, y, h := l[r.Intn(len(l))], l[r.Intn(len(l))], r.Intn(p.Levels)
	way := nextAt(p, indexOf(x.ref), h)
	switch r.Intn(8) {
	case 0, 1:
		c.Store(way, c.Load(way)|1)
	case 2:
		c.Store(way, c.Load(nextAt(p, indexOf(c.Load(way)), h)))
	case 3:
		if less(x.key, y.key) {
			c.Store(way, y.ref)
		}
	case 4:
		c.Store(nextAt(p, 0, h), x.ref)
	case 5:
		c.Store(seqAt(p, indexOf(x.ref)), uint64(r.Intn(9)))
	case 6:
		c.Store(way, c.Load(way)&^1)
	case 7:
		c.Store(nextAt(p, 0, h), c.Load(nextAt(p, 0, h))|1)
		if r.Intn(2) == 0 {
			c.Store(nextAt(p, 0, h), 0)
		}
	}
}

// 18.1: several seekers that go by turns through chains that others turn meanwhile: each step is the one that the chapter's sentences say.
func TestInTurns(t *testing.T) {
	r := rand.New(rand.NewSource(184))
	again, ends := 0, 0
	for _, p := range rightPlans() {
		for range 12 {
			l := chance(r, p, 2)
			stand := made(t, p).Words()
			lay(stand, p, l)
			c := memory(t, stand)
			var now []*turn
			for range 250 {
				if len(now) < 4 {
					k := keysOf(r, l)[0]
					now = append(now, &turn{fast: Seek(p, k), key: k})
				}
				if r.Intn(9) == 0 {
					meddle(r, c, p, l)
				}
				i := r.Intn(len(now))
				g := now[i]
				want := same(t, g.fast, p, g.key, g.told)
				if want.over || len(g.told) > 120 {
					again += want.again
					ends++
					now = slices.Delete(now, i, i+1)
					continue
				}
				stand = c.Words()
				found := slow(stand, want.asked[len(want.asked)-1])
				if got := task.Play(c, g.fast, 1); len(got) != 1 || got[0] != found {
					t.Fatalf("%v was found at one step, not %d", got, found)
				}
				stands(t, c, stand)
				g.told = append(g.told, found)
			}
		}
	}
	if again < 1000 || ends < 5000 {
		t.Errorf("it came to step 1 anew %d times only, and to its end %d times", again, ends)
	}
}

// 18.1: a slot is taken out by one seeker ahead of the Swap of another one, which takes nothing out then, but begins anew.
func TestSwapBehindAnotherSwap(t *testing.T) {
	p := api.Plan{Threads: 2, Slots: 3, Levels: 1}
	l := sorted([]member{{ref: ref(1, 1), key: api.Key{Deadline: 1}}, {ref: ref(2, 2), key: api.Key{Deadline: 2}}, {ref: ref(3, 3), key: api.Key{Deadline: 3}}})
	for i := range l {
		l[i].in[0] = true
	}
	l[0].out[0] = true
	stand := made(t, p).Words()
	lay(stand, p, l)
	c := memory(t, stand)
	x, y := Seek(p, api.Key{Deadline: 9}), Seek(p, api.Key{Deadline: 2})
	task.Play(c, x, 2)
	task.Play(c, y, 99)
	ended(t, y, []uint64{0}, []uint64{ref(2, 2)})
	c.Store(nextAt(p, 2, 0), ref(3, 3)+1)
	// The head leads to another slot by now, so it begins anew.
	if found := task.Play(c, x, 99); !slices.Equal(found, []uint64{ref(2, 2), ref(2, 2), ref(3, 3) + 1, ref(2, 2), 0, 3}) {
		t.Fatalf("%v was found", found)
	}
	ended(t, x, []uint64{ref(3, 3)}, []uint64{0})
	if all, _ := walk(t, c.Words(), p, 0); !slices.Equal(all, []uint64{ref(3, 3)}) {
		t.Fatalf("%v are in the chain", all)
	}
}
