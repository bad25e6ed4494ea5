package link

import (
	"math"
	"math/rand"
	"slices"
	"testing"

	"sundial/api"
	"sundial/blank"
	"sundial/cells"
	"sundial/mint"
	"sundial/plan"
	"sundial/refer"
	"sundial/task"
)

// half is how often a lower half goes into a word: a word is its high half times half, and its low half.
const half = 4294967296

// lastGen and lastIndex are the greatest generation and index that a reference has.
const (
	lastGen   = 4294967295
	lastIndex = 2147483647
)

// words are the edges of a word.
var words = []uint64{0, 1, 2, 3, 4, 5, 6, 7, 128, 129, 130, 131, 1<<31 - 1, 1 << 31, half - 2, half - 1, half, half + 1, half + 2, half + 3, 1<<63 - 1, 1 << 63, 1<<63 + 1, 1<<63 + 2, lastGen * half, lastGen*half + 1, lastGen*half + 2, math.MaxUint64 - 1, math.MaxUint64}

// deadlines and seqs are the edges of a key's parts, and talls those of a height.
var (
	deadlines = []int{math.MinInt, math.MinInt + 1, -api.MaxTime, -2, -1, 0, 1, 2, 5, api.MaxTime, api.Never, math.MaxInt - 1, math.MaxInt}
	seqs      = []uint64{0, 1, 2, 7, half - 1, half, 1<<63 - 1, 1 << 63, 1<<63 + 1, math.MaxUint64 - 1, math.MaxUint64}
	talls     = []int{math.MinInt, math.MinInt + 1, -1 << 32, -1<<32 + 1, -8, -1, 0, 1, 2, 3, 4, 7, 8, 9, 64, 1 << 32, 1<<32 + 1, math.MaxInt - 1, math.MaxInt}
)

// flat and small are plans of which the head's ways on stand from 7 on; of flat the slots' words Dead are at 9, 16 and 23, Seq at 10, 17 and 24, Next at 14, 21 and 28; of small Dead is at 10, 18 and 26, Seq at 11, 19 and 27, Next from 15, 23 and 31 on.
var (
	flat  = api.Plan{Threads: 1, Slots: 3, Levels: 1}
	small = api.Plan{Threads: 1, Slots: 3, Levels: 2}
)

// a and b are references to the slots 1 and 2, and am and bm those with the mark; mine is one to the slot 3, which is brought into the chain.
const (
	a    = 5*half + 2
	am   = 5*half + 3
	b    = 7*half + 4
	bm   = 7*half + 5
	mine = 9*half + 6
)

// key is one between all edges.
var key = api.Key{Deadline: 20, Seq: 30}

// rightPlans are such of which each number is the least, one between, or the greatest.
func rightPlans() []api.Plan {
	var l []api.Plan
	for _, threads := range []int{1, 3, 8} {
		for _, slots := range []int{1, 2, 5, 64} {
			for _, levels := range []int{1, 2, 4, 8} {
				l = append(l, api.Plan{Threads: threads, Slots: slots, Levels: levels, Gen: []uint64{0, 1, lastGen}[len(l)%3]})
			}
		}
	}
	return l
}

// wrongPlans are those of which one number alone is none that there is, and those of which several are.
func wrongPlans() []api.Plan {
	l := []api.Plan{{}, {Threads: -1, Slots: -1, Levels: -1}, {Threads: 9, Slots: 65, Levels: 9, Gen: half}, {Threads: math.MaxInt, Slots: math.MaxInt, Levels: math.MaxInt, Gen: math.MaxUint64}, {Threads: math.MinInt, Slots: math.MinInt, Levels: math.MinInt}}
	for _, n := range []int{math.MinInt, math.MinInt + 1, -1<<32 + 2, -64, -1, 0, 9, 65, 1000, 1 << 31, 1<<32 + 2, math.MaxInt - 1, math.MaxInt} {
		l = append(l, api.Plan{Threads: n, Slots: 3, Levels: 3}, api.Plan{Threads: 2, Slots: n, Levels: 3}, api.Plan{Threads: 2, Slots: 3, Levels: n})
	}
	for _, gen := range []uint64{half, half + 1, 1 << 63, math.MaxUint64} {
		l = append(l, api.Plan{Threads: 2, Slots: 3, Levels: 3, Gen: gen})
	}
	return l
}

// allPlans are those that are right, and those that are not.
func allPlans() []api.Plan {
	return append(rightPlans(), wrongPlans()...)
}

// ref puts a reference together.
func ref(gen uint64, index int) uint64 { return gen*half + 2*uint64(index) }

// indexOf tells the index of a reference.
func indexOf(r uint64) int { return int(r % half / 2) }

// firstAt tells where a slot's words begin, by chapter 8's sums; nextAt where its way on at a level stands, the head's of the slot 0; deadAt and seqAt where the timer's deadline and number stand.
func firstAt(p api.Plan, slot int) int { return 4 + 3*p.Threads + p.Levels + (slot-1)*(6+p.Levels) }
func nextAt(p api.Plan, slot, level int) int {
	if slot == 0 {
		return 4 + 3*p.Threads + level
	}
	return firstAt(p, slot) + 6 + level
}
func deadAt(p api.Plan, slot int) int { return firstAt(p, slot) + 1 }
func seqAt(p api.Plan, slot int) int  { return firstAt(p, slot) + 2 }

// Deeds by their kinds, for short.
func read(at int, by uint64) api.Deed     { return api.Deed{Kind: 1, At: at, By: by} }
func store(at int, w, by uint64) api.Deed { return api.Deed{Kind: 2, At: at, A: w, By: by} }
func swap(at int, old, w, by uint64) api.Deed {
	return api.Deed{Kind: 3, At: at, A: old, B: w, By: by}
}

// job is what Link is asked.
type job struct {
	plan api.Plan
	ref  uint64
	key  api.Key
	tall int
}

// link makes the linker of a job.
func (j job) link() *Linker { return Link(j.plan, j.ref, j.key, j.tall) }

// less tells whether a key is less than another one, by chapter 3's sentence.
func less(x, y api.Key) bool {
	return x.Deadline < y.Deadline || x.Deadline == y.Deadline && x.Seq < y.Seq
}

// seekOf tells by chapter 18's sentences what Seek of p and k finds, each deed being done by ask; false, if that does no more.
func seekOf(p api.Plan, k api.Key, ask func(api.Deed) (uint64, bool)) (preds, succs []uint64, ok bool) {
	var w, n, d, s, pred, cur, succ uint64
	var h int
	var smaller bool
one:
	pred, h, preds, succs = 0, p.Levels-1, nil, nil
two:
	if w, ok = ask(read(nextAt(p, indexOf(pred), h), pred)); !ok {
		return nil, nil, false
	}
	if w%2 == 1 {
		goto one
	}
	cur = w
three:
	if indexOf(cur) == 0 {
		succ = 0
		goto seven
	}
	if n, ok = ask(read(nextAt(p, indexOf(cur), h), cur)); !ok {
		return nil, nil, false
	}
	if n%2 == 1 {
		if w, ok = ask(swap(nextAt(p, indexOf(pred), h), cur, n-1, pred)); !ok {
			return nil, nil, false
		}
		if w != cur {
			goto one
		}
		cur = n - 1
		goto three
	}
	if d, ok = ask(read(deadAt(p, indexOf(cur)), cur)); !ok {
		return nil, nil, false
	}
	smaller = int(d) < k.Deadline
	if int(d) == k.Deadline {
		if s, ok = ask(read(seqAt(p, indexOf(cur)), cur)); !ok {
			return nil, nil, false
		}
		smaller = s < k.Seq
	}
	if smaller {
		pred, cur = cur, n
		goto three
	}
	succ = cur
seven:
	preds, succs = append([]uint64{pred}, preds...), append([]uint64{succ}, succs...)
	if h > 0 {
		h--
		goto two
	}
	return preds, succs, true
}

// What a deed of a tale is for.
const (
	seeking = iota
	storing
	swapping
)

// tale is what a Link comes to by the chapter's sentences.
type tale struct {
	asked        []api.Deed // one behind the other; the last one is asked for still, if it is not over
	what         int        // for what the last one is
	over         bool       // whether it is done
	preds, succs []uint64   // from the level 0 on, if it is over
	again        int        // how often it came to step 1 anew
}

// tale tells by the chapter's sentences what a job comes to, when it is told l.
func (j job) tale(l []uint64) (out tale) {
	if j.plan.Levels <= 0 {
		out.over = true
		return out
	}
	told := 0
	ask := func(d api.Deed) (uint64, bool) {
		out.asked = append(out.asked, d)
		if told == len(l) {
			return 0, false
		}
		told++
		return l[told-1], true
	}
	for {
		out.what = seeking
		preds, succs, ok := seekOf(j.plan, j.key, ask)
		if !ok {
			return out
		}
		out.what = storing
		for h := 0; h < j.tall && h < j.plan.Levels; h++ {
			if _, ok := ask(store(nextAt(j.plan, indexOf(j.ref), h), succs[h], j.ref)); !ok {
				return out
			}
		}
		out.what = swapping
		found, ok := ask(swap(nextAt(j.plan, indexOf(preds[0]), 0), succs[0], j.ref, preds[0]))
		if !ok {
			return out
		}
		if found == succs[0] {
			out.over, out.preds, out.succs = true, preds, succs
			return out
		}
		out.again++
	}
}

// slow does a deed of chapter 7 to words, and tells what was found.
func slow(stand []uint64, d api.Deed) uint64 {
	if d.At < 0 || d.At >= len(stand) {
		return 0
	}
	was := stand[d.At]
	switch {
	case d.Kind == 2:
		stand[d.At] = d.A
	case d.Kind == 3 && was == d.A:
		stand[d.At] = d.B
	}
	return was
}

// played tells by the chapter's sentences what a job finds, done alone to words, which are turned; false, if it is not done behind so many steps.
func (j job) played(stand []uint64, most int) ([]uint64, bool) {
	var found []uint64
	for range most {
		now := j.tale(found)
		if now.over {
			return found, true
		}
		found = append(found, slow(stand, now.asked[len(now.asked)-1]))
	}
	return found, j.tale(found).over
}

// lists asks whether a linker tells these lists, again and again, each in new memory.
func lists(t *testing.T, k *Linker, preds, succs []uint64) {
	t.Helper()
	for range 2 {
		x, y := k.Preds(), k.Succs()
		if !slices.Equal(x, preds) || !slices.Equal(y, succs) {
			t.Fatalf("%v and %v are told, not %v and %v", x, y, preds, succs)
		}
		for i := range x {
			x[i], y[i] = 77, 78
		}
	}
}

// asks asks whether a linker asks for d, and tells no list, again and again.
func asks(t *testing.T, k *Linker, d api.Deed) {
	t.Helper()
	for range 3 {
		if got, more := k.Next(); got != d || !more {
			t.Fatalf("%+v is asked for (%v), not %+v", got, more, d)
		}
		lists(t, k, nil, nil)
	}
}

// ended asks whether a linker is done, tells these lists, and stays so whatever it is told.
func ended(t *testing.T, k *Linker, preds, succs []uint64) {
	t.Helper()
	for _, found := range []uint64{0, 1, a, am, 20, 30, math.MaxUint64, 0} {
		if got, more := k.Next(); got != (api.Deed{}) || more {
			t.Fatalf("%+v is asked for (%v) by a task that is done", got, more)
		}
		lists(t, k, preds, succs)
		k.Tell(found)
	}
	if got, more := k.Next(); got != (api.Deed{}) || more {
		t.Fatalf("a task that is done went on to %+v (%v)", got, more)
	}
	lists(t, k, preds, succs)
}

// step is a deed that is asked for, and what is told then.
type step struct {
	asked api.Deed
	found uint64
}

// goes asks whether a linker asks for the deeds of l, and has found these then.
func goes(t *testing.T, k *Linker, l []step) {
	t.Helper()
	for _, s := range l {
		asks(t, k, s.asked)
		k.Tell(s.found)
	}
}

// links asks whether a job's linker asks for the deeds of l, and is done then, with these lists.
func links(t *testing.T, j job, preds, succs []uint64, l ...step) {
	t.Helper()
	k := j.link()
	goes(t, k, l)
	ended(t, k, preds, succs)
}

// same asks whether a job's linker that was told l stands where the chapter's sentences say.
func same(t *testing.T, k *Linker, j job, l []uint64) tale {
	t.Helper()
	want := j.tale(l)
	got, more := k.Next()
	if more == want.over || want.over && got != (api.Deed{}) || more && got != want.asked[len(want.asked)-1] {
		t.Fatalf("Link of %+v, told %v, asks for %+v (%v), not as %+v", j, l, got, more, want)
	}
	if x, y := k.Preds(), k.Succs(); !slices.Equal(x, want.preds) || !slices.Equal(y, want.succs) {
		t.Fatalf("Link of %+v, told %v, tells %v and %v, not as %+v", j, l, x, y, want)
	}
	return want
}

// made makes the memory at the beginning of a right plan.
func made(t *testing.T, p api.Plan) *cells.Cells {
	t.Helper()
	c, err := blank.Make(p)
	if err != api.OK {
		t.Fatalf("no memory of %+v: %d", p, err)
	}
	return c
}

// memory makes a memory of words.
func memory(t *testing.T, l []uint64) *cells.Cells {
	t.Helper()
	c, err := cells.Of(l)
	if err != api.OK {
		t.Fatal(err)
	}
	return c
}

// stands asks whether a memory has just these words.
func stands(t *testing.T, c *cells.Cells, l []uint64) {
	t.Helper()
	if got := c.Words(); !slices.Equal(got, l) {
		t.Fatalf("%v stand, not %v", got, l)
	}
}

// word is a number as a word.
func word(n int) uint64 { return uint64(n) }

// 20.1: the chapter's example, in numbers and done alone; and of each number of levels and each height at the beginning.
func TestExample(t *testing.T) {
	p := api.Plan{Threads: 1, Slots: 1, Levels: 1}
	links(t, job{p, 2, key, 1}, []uint64{0}, []uint64{0}, step{read(7, 0), 0}, step{store(14, 0, 2), 0}, step{swap(7, 0, 2, 0), 0})
	for _, p := range rightPlans() {
		for tall := 1; tall <= p.Levels; tall++ {
			c := made(t, p)
			stand, r := c.Words(), ref(p.Gen, p.Slots)
			k := Link(p, r, key, tall)
			if l := task.Play(c, k, 99); !slices.Equal(l, make([]uint64, p.Levels+tall+1)) {
				t.Fatalf("%v was found at the beginning of %+v, of the height %d", l, p, tall)
			}
			ended(t, k, make([]uint64, p.Levels), make([]uint64, p.Levels))
			stand[nextAt(p, 0, 0)] = r
			stands(t, c, stand)
		}
	}
}

// 20.1: each deed in the names of api's, of layer 2 and of layer 8.
func TestDeedsByName(t *testing.T) {
	p := api.Plan{Threads: 2, Slots: 3, Levels: 2, Gen: 9}
	x, y, r := refer.Of(3, 1), refer.Of(4, 3), refer.Of(5, 2)
	links(t, job{p, r, api.Key{Deadline: 8, Seq: 5}, 2}, []uint64{x, 0}, []uint64{0, y},
		step{api.Deed{Kind: api.Load, At: plan.Next(p, 0, 1)}, y},
		step{api.Deed{Kind: api.Load, At: plan.Next(p, 3, 1), By: y}, 0},
		step{api.Deed{Kind: api.Load, At: plan.Dead(p, 3), By: y}, 9},
		step{api.Deed{Kind: api.Load, At: plan.Next(p, 0, 0)}, x},
		step{api.Deed{Kind: api.Load, At: plan.Next(p, 1, 0), By: x}, y},
		step{api.Deed{Kind: api.Load, At: plan.Dead(p, 1), By: x}, 8},
		step{api.Deed{Kind: api.Load, At: plan.Seq(p, 1), By: x}, 4},
		step{api.Deed{Kind: api.Load, At: plan.Next(p, 3, 0), By: y}, refer.Mark(0)},
		step{api.Deed{Kind: api.Swap, At: plan.Next(p, 1, 0), A: y, B: 0, By: x}, y},
		step{api.Deed{Kind: api.Store, At: plan.Next(p, 2, 0), A: 0, By: r}, 0},
		step{api.Deed{Kind: api.Store, At: plan.Next(p, 2, 1), A: y, By: r}, 0},
		step{api.Deed{Kind: api.Swap, At: plan.Next(p, 1, 0), A: 0, B: r, By: x}, 0})
}

// 20.1: of no level it is done at once, whatever it is asked else, and finds nothing.
func TestNoLevel(t *testing.T) {
	for _, levels := range []int{0, -1, -2, -1 << 32, -1<<32 + 2, math.MinInt + 1, math.MinInt} {
		for _, n := range []int{1, 3, 0, -1, math.MaxInt, math.MinInt} {
			for _, r := range []uint64{0, 1, mine, mine + 1, math.MaxUint64} {
				j := job{api.Plan{Threads: n, Slots: n, Levels: levels}, r, key, n}
				links(t, j, nil, nil)
				c := made(t, small)
				stand := c.Words()
				if l := task.Play(c, j.link(), 9); len(l) != 0 {
					t.Fatalf("%v was found of no level", l)
				}
				stands(t, c, stand)
			}
		}
	}
}

// 20.1: as many ways on are stored as the height says, and the plan has, from the level 0 on; of a height of none there is no Store.
func TestTalls(t *testing.T) {
	p := api.Plan{Threads: 1, Slots: 3, Levels: 4}
	// The slots' words begin at 11, 21 and 31.
	seek := []step{
		{read(10, 0), 0},
		{read(9, 0), b}, {read(29, b), 0}, {read(22, b), 21},
		{read(8, 0), a}, {read(18, a), b}, {read(12, a), 19}, {read(28, b), 0}, {read(22, b), 21},
		{read(17, a), 0},
	}
	stores := []step{{store(37, 0, mine), 0}, {store(38, b, mine), 9}, {store(39, b, mine), 1}, {store(40, 0, mine), am}}
	for _, tall := range talls {
		n := min(max(tall, 0), 4)
		links(t, job{p, mine, key, tall}, []uint64{a, a, 0, 0}, []uint64{0, b, b, 0}, slices.Concat(seek, stores[:n], []step{{swap(17, 0, mine, a), 0}})...)
		// Sought anew all of them are stored anew, each the succ that is found then.
		links(t, job{p, mine, key, tall}, []uint64{0, 0, 0, 0}, []uint64{0, 0, 0, 0}, slices.Concat(seek, stores[:n], []step{{swap(17, 0, mine, a), b}},
			[]step{{read(10, 0), 0}, {read(9, 0), 0}, {read(8, 0), 0}, {read(7, 0), 0}},
			[]step{{store(37, 0, mine), 0}, {store(38, 0, mine), b}, {store(39, 0, mine), b}, {store(40, 0, mine), 0}}[:n],
			[]step{{swap(7, 0, mine, 0), 0}})...)
	}
}

// 20.1: of all plans, and all heights, as many ways on are stored as there are levels, at most.
func TestTallsOfAllPlans(t *testing.T) {
	for _, p := range allPlans() {
		if p.Levels <= 0 || p.Levels > 1000 {
			continue
		}
		for _, tall := range append([]int{p.Levels - 1, p.Levels, p.Levels + 1}, talls...) {
			k := Link(p, mine, key, tall)
			for h := p.Levels - 1; h >= 0; h-- {
				asks(t, k, read(nextAt(p, 0, h), 0))
				k.Tell(0)
			}
			for h := 0; h < min(tall, p.Levels); h++ {
				asks(t, k, store(nextAt(p, 3, h), 0, mine))
				k.Tell(uint64(h))
			}
			asks(t, k, swap(nextAt(p, 0, 0), 0, mine, 0))
			k.Tell(0)
			ended(t, k, make([]uint64, p.Levels), make([]uint64, p.Levels))
		}
	}
}

// 20.1: a reference with or without the mark, of all generations, and of all indexes that there are, be there such a slot or not: its index leads to the words at the places of chapter 8's sums, By it, and it is what is swapped in, as it stands; the index 0 leads to the head's ways on.
func TestReferences(t *testing.T) {
	for _, p := range allPlans() {
		if p.Levels <= 0 || p.Levels > 1000 {
			continue
		}
		for _, gen := range []uint64{0, 1, 1 << 31, lastGen} {
			for _, slot := range []int{0, 1, 2, p.Slots, p.Slots + 1, 64, 65, 1 << 30, lastIndex} {
				if slot < 0 || slot > lastIndex {
					continue
				}
				for _, r := range []uint64{ref(gen, slot), ref(gen, slot) + 1} {
					k := Link(p, r, key, 2)
					for range p.Levels {
						k.Tell(0)
					}
					asks(t, k, store(nextAt(p, slot, 0), 0, r))
					k.Tell(r)
					if p.Levels > 1 {
						asks(t, k, store(nextAt(p, slot, 1), 0, r))
						k.Tell(0)
					}
					asks(t, k, swap(nextAt(p, 0, 0), 0, r, 0))
					k.Tell(0)
					ended(t, k, make([]uint64, p.Levels), make([]uint64, p.Levels))
				}
			}
		}
	}
}

// 20.1: whoever stands ahead and behind, of all generations and indexes: the swap is at the place of the one, By it, and holds the other one.
func TestReferencesOfOthers(t *testing.T) {
	for _, p := range allPlans() {
		if p.Levels <= 0 || p.Levels > 1000 {
			continue
		}
		for _, gen := range []uint64{0, 1, 1 << 31, lastGen} {
			for _, slot := range []int{1, 2, p.Slots, p.Slots + 1, 64, 65, 1 << 30, lastIndex} {
				if slot < 1 || slot > lastIndex {
					continue
				}
				x, y := ref(gen, slot), ref(lastGen-gen, lastIndex+1-slot)
				k := Link(p, mine, key, 1)
				for range p.Levels - 1 {
					k.Tell(0)
				}
				goes(t, k, []step{
					{read(nextAt(p, 0, 0), 0), x}, {read(nextAt(p, slot, 0), x), y}, {read(deadAt(p, slot), x), 20}, {read(seqAt(p, slot), x), 29},
					{read(nextAt(p, lastIndex+1-slot, 0), y), 0}, {read(deadAt(p, lastIndex+1-slot), y), 20}, {read(seqAt(p, lastIndex+1-slot), y), 30},
					{store(nextAt(p, 3, 0), y, mine), 0},
					{swap(nextAt(p, slot, 0), y, mine, x), y},
				})
				preds, succs := make([]uint64, p.Levels), make([]uint64, p.Levels)
				preds[0], succs[0] = x, y
				ended(t, k, preds, succs)
			}
		}
	}
}

// 20.1: a chain with one slot that is less, is greater, or has an equal Deadline, or the key itself: which of the two words is swapped.
func TestKeys(t *testing.T) {
	for _, mineD := range deadlines {
		for _, d := range deadlines {
			for _, mineS := range seqs {
				for _, s := range seqs {
					l := []step{{read(7, 0), a}, {read(14, a), 0}, {read(9, a), word(d)}}
					if d == mineD {
						l = append(l, step{read(10, a), s})
					}
					k := api.Key{Deadline: mineD, Seq: mineS}
					if less(api.Key{Deadline: d, Seq: s}, k) {
						links(t, job{flat, mine, k, 1}, []uint64{a}, []uint64{0}, append(l, step{store(28, 0, mine), 0}, step{swap(14, 0, mine, a), 0})...)
					} else {
						links(t, job{flat, mine, k, 1}, []uint64{0}, []uint64{a}, append(l, step{store(28, a, mine), 0}, step{swap(7, a, mine, 0), a})...)
					}
				}
			}
		}
	}
}

// 20.1: chains with many, at two levels: ahead of all, between two, behind all, and ahead of one of the same key.
func TestChainsOfMany(t *testing.T) {
	p := api.Plan{Threads: 1, Slots: 5, Levels: 2}
	r := func(slot int) uint64 { return ref(uint64(slot)*7, slot) }
	// The slots' words begin at 9, 17, 25, 33 and 41; 1 to 4 are in the lower chain, 2 and 4 in the higher one; their deadlines are 10, 20, 20, 30, and the numbers of 2 and 3 are 5 and 6.
	top2 := []step{{read(8, 0), r(2)}, {read(24, r(2)), r(4)}, {read(18, r(2)), 20}}
	top4 := []step{{read(40, r(4)), 0}, {read(34, r(4)), 30}}
	links(t, job{p, r(5), api.Key{Deadline: 9, Seq: 99}, 2}, []uint64{0, 0}, []uint64{r(1), r(2)}, slices.Concat(top2,
		[]step{{read(7, 0), r(1)}, {read(15, r(1)), r(2)}, {read(10, r(1)), 10}},
		[]step{{store(47, r(1), r(5)), 0}, {store(48, r(2), r(5)), 0}, {swap(7, r(1), r(5), 0), r(1)}})...)
	for _, same := range []uint64{6, 7} {
		pred, succ, between := r(2), r(3), []step{}
		if same == 7 {
			pred, succ = r(3), r(4)
			between = []step{{read(39, r(4)), 0}, {read(34, r(4)), 30}}
		}
		links(t, job{p, r(5), api.Key{Deadline: 20, Seq: same}, 2}, []uint64{pred, r(2)}, []uint64{succ, r(4)}, slices.Concat(top2, []step{{read(19, r(2)), 5}}, top4,
			[]step{{read(23, r(2)), r(3)}, {read(31, r(3)), r(4)}, {read(26, r(3)), 20}, {read(27, r(3)), 6}}, between,
			[]step{{store(47, succ, r(5)), 0}, {store(48, r(4), r(5)), 0}, {swap(nextAt(p, indexOf(pred), 0), succ, r(5), pred), succ}})...)
	}
	links(t, job{p, r(5), api.Key{Deadline: 31}, 1}, []uint64{r(4), r(4)}, []uint64{0, 0}, slices.Concat(top2, top4,
		[]step{{read(39, r(4)), 0}, {store(47, 0, r(5)), 0}, {swap(39, 0, r(5), r(4)), 0}})...)
}

// 20.1: a Store finds any word, and it goes on all the same; so does the word that it stores not hang on what was found.
func TestStoresFindWhatever(t *testing.T) {
	for _, x := range words {
		for _, y := range append([]uint64{a, am, b, mine, mine + 1}, words...) {
			links(t, job{small, mine, key, 2}, []uint64{0, 0}, []uint64{b, a},
				step{read(8, 0), a}, step{read(16, a), 0}, step{read(10, a), 21}, step{read(7, 0), b}, step{read(23, b), a}, step{read(18, b), 22},
				step{store(31, b, mine), x}, step{store(32, a, mine), y}, step{swap(7, b, mine, 0), b})
		}
	}
}

// 20.1: any word stands as a deadline and as a number.
func TestDeadAndSeqAreAnyWord(t *testing.T) {
	for _, d := range words {
		for _, s := range words {
			for _, k := range []api.Key{key, {Deadline: int(d), Seq: s}, {Deadline: int(d), Seq: s - 1}, {Deadline: int(d), Seq: s + 1}, {}, {Deadline: math.MinInt}, {Deadline: math.MaxInt, Seq: math.MaxUint64}} {
				j := job{flat, mine, k, 1}
				fast := j.link()
				var l []uint64
				for _, found := range []uint64{a, 0, d, s, 0, 0} {
					if same(t, fast, j, l).over {
						break
					}
					fast.Tell(found)
					l = append(l, found)
				}
				same(t, fast, j, l)
			}
		}
	}
}

// 20.1: what is none ends a chain, whatever its generation, and 0 is what is found then: so it is 0 that is stored, and that the Swap holds; it finds the word that stands there, and seeks anew.
func TestNone(t *testing.T) {
	for _, gen := range []uint64{1, 5, 1 << 31, lastGen} {
		none := gen * half
		try := []step{{read(7, 0), none}, {store(28, 0, mine), 0}, {swap(7, 0, mine, 0), none}}
		k := Link(flat, mine, key, 1)
		for range 50 {
			goes(t, k, try)
		}
		goes(t, k, []step{{read(7, 0), a}, {read(14, a), none}, {read(9, a), 19}, {store(28, 0, mine), 0}, {swap(14, 0, mine, a), 0}})
		ended(t, k, []uint64{a}, []uint64{0})
	}
}

// 20.1: a last Swap that finds any other word than the succ seeks anew, again and again, and all is stored anew then; the succ is a slot.
func TestSwapFindsAnotherWord(t *testing.T) {
	for _, other := range append([]uint64{a + 1, a - 2, a + 2, a + half, a - half, a % half, b, bm, mine, mine + 1}, words...) {
		try := []step{{read(7, 0), a}, {read(14, a), b}, {read(9, a), 21}, {store(28, a, mine), other}, {swap(7, a, mine, 0), other}}
		end := slices.Clone(try)
		end[4].found = a
		links(t, job{flat, mine, key, 1}, []uint64{0}, []uint64{a}, slices.Concat(try, end)...)
		links(t, job{flat, mine, key, 1}, []uint64{0}, []uint64{a}, slices.Concat(try, try, try, end)...)
		// It finds others then.
		links(t, job{flat, mine, key, 1}, []uint64{b}, []uint64{0}, slices.Concat(try, try,
			[]step{{read(7, 0), b}, {read(21, b), 0}, {read(16, b), 20}, {read(17, b), 29}, {store(28, 0, mine), 0}, {swap(21, 0, mine, b), 0}})...)
		links(t, job{flat, mine, key, 1}, []uint64{0}, []uint64{0}, slices.Concat(try,
			[]step{{read(7, 0), 0}, {store(28, 0, mine), a}, {swap(7, 0, mine, 0), 0}})...)
	}
}

// 20.1: the same where the succ is none: just 0 is it.
func TestSwapFindsAnotherWordThanNone(t *testing.T) {
	for _, other := range append([]uint64{1, mine, mine + 1, a, am}, words...) {
		if other == 0 {
			continue
		}
		try := []step{{read(7, 0), a}, {read(14, a), 0}, {read(9, a), 19}, {store(28, 0, mine), 0}, {swap(14, 0, mine, a), other}}
		end := slices.Clone(try)
		end[4].found = 0
		links(t, job{flat, mine, key, 1}, []uint64{a}, []uint64{0}, slices.Concat(try, end)...)
		links(t, job{flat, mine, key, 1}, []uint64{a}, []uint64{0}, slices.Concat(try, try, try, end)...)
	}
}

// 20.1: each bit of the succ counts where the last Swap is held against what it asked for.
func TestSwapHoldsTheWholeSucc(t *testing.T) {
	for _, r := range []uint64{2, a, b, ref(lastGen, lastIndex), ref(0, lastIndex), ref(lastGen, 1)} {
		for bit := range 64 {
			k := Link(small, mine, key, 1)
			for _, found := range []uint64{0, r, 0, 21, 0, r ^ 1<<bit} {
				k.Tell(found)
			}
			asks(t, k, read(8, 0))
		}
	}
}

// 20.1: behind a Swap that fails all levels are sought anew, from the head of the highest one on, and what was found ahead of that is forgotten, be it other preds and succs at a higher level, or at the lowest one.
func TestSoughtAnew(t *testing.T) {
	try := []step{
		{read(8, 0), a}, {read(16, a), b}, {read(10, a), 19}, {read(24, b), 0}, {read(18, b), 21},
		{read(15, a), b}, {read(23, b), 0}, {read(18, b), 21},
		{store(31, b, mine), 0}, {store(32, b, mine), 0}, {swap(15, b, mine, a), bm},
	}
	links(t, job{small, mine, key, 2}, []uint64{0, 0}, []uint64{0, 0}, slices.Concat(try,
		[]step{{read(8, 0), 0}, {read(7, 0), 0}, {store(31, 0, mine), b}, {store(32, 0, mine), b}, {swap(7, 0, mine, 0), 0}})...)
	links(t, job{small, mine, key, 2}, []uint64{b, b}, []uint64{a, 0}, slices.Concat(try,
		[]step{{read(8, 0), b}, {read(24, b), 0}, {read(18, b), 19}, {read(23, b), a}, {read(15, a), 0}, {read(10, a), 21}},
		[]step{{store(31, a, mine), b}, {store(32, 0, mine), b}, {swap(23, a, mine, b), a}})...)
	links(t, job{small, mine, key, 2}, []uint64{a, a}, []uint64{b, b}, slices.Concat(try, try, try[:10], []step{{swap(15, b, mine, a), b}})...)
}

// 20.1: a way on that is marked while it seeks, in the first seek and in a later one, of pred and of cur, and one that others take out meanwhile.
func TestMarkedWhileItSeeks(t *testing.T) {
	for _, marked := range []uint64{1, am, bm, mine + 1, 3, math.MaxUint64} {
		begin := []step{
			{read(8, 0), marked},
			{read(8, 0), a}, {read(16, a), 0}, {read(10, a), 19}, {read(15, a), marked},
		}
		seek := []step{
			{read(8, 0), a}, {read(16, a), bm}, {swap(8, a, b, 0), b},
			{read(8, 0), a}, {read(16, a), bm}, {swap(8, a, b, 0), a}, {read(24, b), 0}, {read(18, b), 21},
			{read(7, 0), a}, {read(15, a), bm}, {swap(7, a, b, 0), a}, {read(23, b), 0}, {read(18, b), 21},
		}
		stores := []step{{store(31, b, mine), 0}, {store(32, b, mine), 0}}
		fails, ends := []step{{swap(7, b, mine, 0), marked}}, []step{{swap(7, b, mine, 0), b}}
		j := job{small, mine, key, 2}
		links(t, j, []uint64{0, 0}, []uint64{b, b}, slices.Concat(begin, seek, stores, ends)...)
		links(t, j, []uint64{0, 0}, []uint64{b, b}, slices.Concat(begin, begin, seek, stores, fails, begin, begin, seek, stores, fails, seek, stores, ends)...)
	}
}

// 20.1: it goes on as long as its Swap finds another word, again and again, and keeps nothing of that.
func TestAgainAndAgain(t *testing.T) {
	k := Link(small, mine, key, 1<<40)
	for n := range uint64(5000) {
		x, y := ref(n, 1), ref(n+1, 2)
		goes(t, k, []step{
			{read(8, 0), x}, {read(16, x), 0}, {read(10, x), n % 20},
			{read(15, x), y}, {read(23, y), 0}, {read(18, y), 21 + n},
			{store(31, y, mine), n}, {store(32, 0, mine), n + 1}, {swap(15, y, mine, x), y + 1 - n%2*2},
		})
	}
	goes(t, k, []step{{read(8, 0), 0}, {read(7, 0), 0}, {store(31, 0, mine), 0}, {store(32, 0, mine), 0}, {swap(7, 0, mine, 0), 0}})
	ended(t, k, []uint64{0, 0}, []uint64{0, 0})
}

// choices are words that may be found by a job's deed: those that the chapters tell apart, and others.
func choices(d api.Deed, what int, j job) []uint64 {
	switch {
	case d.Kind == 2:
		return []uint64{0, am}
	case what == swapping:
		return []uint64{d.A, d.A ^ 1, d.B, b}
	case d.Kind == 3:
		return []uint64{d.A, d.A + 1, d.B}
	}
	if slot := indexOf(d.By); slot != 0 {
		switch d.At {
		case deadAt(j.plan, slot):
			return []uint64{word(j.key.Deadline - 1), word(j.key.Deadline), word(j.key.Deadline + 1)}
		case seqAt(j.plan, slot):
			return []uint64{j.key.Seq - 1, j.key.Seq, j.key.Seq + 1}
		}
	}
	return []uint64{0, 1, a, bm, 9 * half}
}

// 20.1: whatever of the words that the chapter tells apart is found at each of the first steps, it goes on as the chapter's sentences say.
func TestWhateverIsFound(t *testing.T) {
	for _, p := range []api.Plan{flat, small} {
		for _, tall := range []int{0, 1, 2} {
			for _, k := range []api.Key{{}, key, {Deadline: math.MinInt, Seq: math.MaxUint64}} {
				j := job{p, mine, k, tall}
				var l []uint64
				var fill func()
				fill = func() {
					fast := j.link()
					for _, found := range l {
						fast.Tell(found)
					}
					want := same(t, fast, j, l)
					if want.over || len(l) == 7 {
						return
					}
					for _, found := range choices(want.asked[len(want.asked)-1], want.what, j) {
						l = append(l, found)
						fill()
						l = l[:len(l)-1]
					}
				}
				fill()
			}
		}
	}
}

// anyRef is a reference of chance, of an edge, with a mark or without, or any word.
func anyRef(r *rand.Rand) uint64 {
	switch r.Intn(4) {
	case 0:
		return r.Uint64()
	case 1:
		return words[r.Intn(len(words))]
	}
	return ref([]uint64{0, 1, uint64(r.Uint32()), lastGen}[r.Intn(4)], r.Intn(70)) + uint64(r.Intn(2))
}

// anyKey is a key of chance, or of the edges.
func anyKey(r *rand.Rand) api.Key {
	if r.Intn(2) == 0 {
		return api.Key{Deadline: int(r.Uint64()), Seq: r.Uint64()}
	}
	return api.Key{Deadline: deadlines[r.Intn(len(deadlines))], Seq: seqs[r.Intn(len(seqs))]}
}

// 20.1: words of chance, of which most are such as the chapters tell apart, of all plans, references, keys and heights.
func TestWordsOfChance(t *testing.T) {
	r := rand.New(rand.NewSource(20))
	again, over := 0, 0
	for _, p := range allPlans() {
		for range 300 {
			j := job{p, anyRef(r), anyKey(r), talls[r.Intn(len(talls))]}
			fast := j.link()
			var l []uint64
			for range r.Intn(70) {
				want := same(t, fast, j, l)
				if want.over {
					break
				}
				some := choices(want.asked[len(want.asked)-1], want.what, j)
				found := some[r.Intn(len(some))]
				if want.what == seeking && r.Intn(2) == 0 {
					found = 0
				}
				if r.Intn(15) == 0 {
					found = anyRef(r)
				}
				fast.Tell(found)
				l = append(l, found)
			}
			want := same(t, fast, j, l)
			again += want.again
			if want.over && p.Levels > 0 {
				over++
			}
		}
	}
	if again < 5000 || over < 2000 {
		t.Errorf("it came to step 1 anew %d times only, and to its end %d times", again, over)
	}
}

// walked are the steps of a Link that seeks twice, with all kinds of deeds in both.
var walked = []step{
	{read(8, 0), a}, {read(16, a), 0}, {read(10, a), 20}, {read(11, a), 30},
	{read(7, 0), b}, {read(23, b), am}, {swap(7, b, a, 0), b}, {read(15, a), 0}, {read(10, a), 20}, {read(11, a), 29},
	{store(31, 0, mine), 5}, {store(32, a, mine), 6}, {swap(15, 0, mine, a), b},
	{read(8, 0), 0}, {read(7, 0), b}, {read(23, b), 0}, {read(18, b), 21},
	{store(31, b, mine), 7}, {store(32, 0, mine), 0}, {swap(7, b, mine, 0), b},
}

// 20.1: asking changes nothing, however often, and neither do Preds and Succs, which tell none ahead of the end: amid the first seek, behind it, amid the Stores, ahead of the last Swap, amid a later seek.
func TestAskingChangesNothing(t *testing.T) {
	k := Link(small, mine, key, 2)
	for _, s := range walked {
		for range 300 {
			asks(t, k, s.asked)
		}
		k.Tell(s.found)
	}
	for range 100 {
		ended(t, k, []uint64{0, 0}, []uint64{b, 0})
	}
}

// 20.1: a task is told ahead of being asked, and goes on all the same.
func TestTellAheadOfNext(t *testing.T) {
	for n := range walked {
		k := Link(small, mine, key, 2)
		for _, s := range walked[:n] {
			k.Tell(s.found)
		}
		asks(t, k, walked[n].asked)
	}
	k := Link(small, mine, key, 2)
	for _, s := range walked {
		k.Tell(s.found)
	}
	lists(t, k, []uint64{0, 0}, []uint64{b, 0})
	ended(t, k, []uint64{0, 0}, []uint64{b, 0})
}

// 20.1 and R7: a linker that is nil, or that no call made, is done, stays so, does nothing, and has found nothing.
func TestTasksThatNoCallMade(t *testing.T) {
	var none *Linker
	for _, k := range []*Linker{none, {}, new(Linker)} {
		ended(t, k, nil, nil)
		for _, w := range words {
			k.Tell(w)
			ended(t, k, nil, nil)
		}
		c := made(t, small)
		was := c.Words()
		if l := task.Play(c, k, 9); len(l) != 0 {
			t.Errorf("%v was found", l)
		}
		stands(t, c, was)
	}
}

// 20.1: each linker goes its own way, of the same job and of others.
func TestTasksAreApart(t *testing.T) {
	x, y, other := Link(small, mine, key, 2), Link(small, mine, key, 2), Link(flat, b, api.Key{Deadline: 1}, 1)
	for i, s := range walked {
		asks(t, x, s.asked)
		asks(t, y, read(8, 0))
		asks(t, other, read(7, 0))
		x.Tell(s.found)
		if i == 10 {
			lists(t, y, nil, nil)
		}
	}
	for _, s := range walked[:12] {
		asks(t, y, s.asked)
		y.Tell(s.found)
	}
	goes(t, other, []step{{read(7, 0), a}, {read(14, a), 0}, {read(9, a), 0}, {store(21, 0, b), 0}, {swap(14, 0, b, a), 0}})
	asks(t, y, walked[12].asked)
	y.Tell(0)
	ended(t, y, []uint64{a, 0}, []uint64{0, a})
	ended(t, other, []uint64{a}, []uint64{0})
	ended(t, x, []uint64{0, 0}, []uint64{b, 0})
}

// 20.1 and R4: a list that was told is the asker's own: whoever changes it, or puts more behind it, changes no other one.
func TestListsAreNew(t *testing.T) {
	k := Link(small, mine, key, 1)
	for _, found := range []uint64{a, b, 19, 0, 21, b, 0, 22, 0, b} {
		k.Tell(found)
	}
	preds, succs := k.Preds(), k.Succs()
	more := k.Preds()
	for _, l := range [][]uint64{preds, succs} {
		l[0], l[1] = 5, 6
		l = append(l[:0], 7, 8, 9)
		l = l[:cap(l)]
		for i := range l {
			l[i] = 10
		}
	}
	if !slices.Equal(more, []uint64{a, a}) {
		t.Errorf("a list became %v", more)
	}
	ended(t, k, []uint64{a, a}, []uint64{b, b})
}

// 20.1: where there is no memory each deed finds 0: so no level has a slot, and the last Swap finds its succ.
func TestNoMemory(t *testing.T) {
	for _, c := range []*cells.Cells{nil, new(cells.Cells)} {
		for _, p := range allPlans() {
			for _, tall := range talls {
				k := Link(p, mine, key, tall)
				if p.Levels > 1000 {
					if l := task.Play(c, k, 2000); len(l) != 2000 {
						t.Fatalf("Link of %+v is done behind %d steps", p, len(l))
					}
					asks(t, k, read(nextAt(p, 0, p.Levels-2001), 0))
					continue
				}
				levels := max(p.Levels, 0)
				steps := levels + max(min(tall, levels), 0) + min(levels, 1)
				if l := task.Play(c, k, 5000); !slices.Equal(l, make([]uint64, steps)) {
					t.Fatalf("%v was found of no memory", l)
				}
				ended(t, k, make([]uint64, levels), make([]uint64, levels))
			}
		}
	}
}

// 20.1: of more levels than there may be it seeks and stores as many as the plan says.
func TestMoreLevelsThanThereMayBe(t *testing.T) {
	for _, levels := range []int{9, 64, 1000, 70000} {
		p := api.Plan{Threads: 1, Slots: 3, Levels: levels}
		k := Link(p, mine, key, math.MaxInt)
		preds, succs := make([]uint64, levels), make([]uint64, levels)
		for n := range levels {
			succs[n] = ref(uint64(n), 1)
		}
		for n := levels - 1; n >= 0; n-- {
			k.Tell(succs[n])
			k.Tell(0)
			k.Tell(21)
		}
		for n := range levels {
			if d, more := k.Next(); !more || d != store(nextAt(p, 3, n), succs[n], mine) {
				t.Fatalf("%+v is asked for (%v) at the level %d", d, more, n)
			}
			k.Tell(0)
		}
		asks(t, k, swap(nextAt(p, 0, 0), succs[0], mine, 0))
		k.Tell(succs[0])
		ended(t, k, preds, succs)
	}
}

// 20.1: of plans that are not right, and of memories of any words, the words that there are turn as the steps say, wherever the sums put them.
func TestAnyMemory(t *testing.T) {
	r := rand.New(rand.NewSource(201))
	for _, p := range allPlans() {
		for range 30 {
			l := make([]uint64, r.Intn(120))
			for at := range l {
				l[at] = ref(uint64(r.Intn(2)), r.Intn(6)) + uint64(r.Intn(8)/7)
				if r.Intn(9) == 0 {
					l[at] = words[r.Intn(len(words))]
				}
			}
			j := job{p, ref(uint64(r.Intn(2)), r.Intn(6)) + uint64(r.Intn(8)/7), api.Key{Deadline: r.Intn(10), Seq: uint64(r.Intn(10))}, r.Intn(10) - 1}
			c, fast := memory(t, l), j.link()
			found, over := j.played(l, 50)
			if got := task.Play(c, fast, 50); !slices.Equal(got, found) {
				t.Fatalf("%v was found, not %v", got, found)
			}
			stands(t, c, l)
			if want := same(t, fast, j, found); want.over != over {
				t.Fatalf("over is %v", want.over)
			}
		}
	}
}

// member is a slot that is in chains: its reference, its key, whether it is in the chain of a level, and whether it is going out of it.
type member struct {
	ref     uint64
	key     api.Key
	in, out [api.MaxLevels]bool
}

// sorted sorts members by their keys, of which none is there twice.
func sorted(l []member) []member {
	slices.SortFunc(l, func(x, y member) int {
		if less(x.key, y.key) {
			return -1
		}
		return 1
	})
	return l
}

// at tells those of l, sorted, that are in the chain of a level.
func at(l []member, level int) []member {
	var in []member
	for _, m := range l {
		if m.in[level] {
			in = append(in, m)
		}
	}
	return in
}

// lay lays the chains of sorted members on the words of a plan, each way on of which the slot is going out of the chain with a mark.
func lay(stand []uint64, p api.Plan, l []member) {
	for _, m := range l {
		stand[deadAt(p, indexOf(m.ref))], stand[seqAt(p, indexOf(m.ref))] = word(m.key.Deadline), m.key.Seq
	}
	for h := range p.Levels {
		from, mark := 0, uint64(0)
		for _, m := range append(at(l, h), member{}) {
			stand[nextAt(p, from, h)] = m.ref + mark
			from, mark = indexOf(m.ref), 0
			if m.out[h] {
				mark = 1
			}
		}
	}
}

// walk tells those that stand in the chain of a level of a memory, from the head on, and which of them are there without a mark.
func walk(t *testing.T, stand []uint64, p api.Plan, level int) (all, staying []uint64) {
	t.Helper()
	w := stand[nextAt(p, 0, level)]
	for n := 0; w%half > 1; n++ {
		if n > p.Slots {
			t.Fatalf("the chain of the level %d does not end", level)
		}
		r := w - w%2
		w = stand[nextAt(p, indexOf(r), level)]
		all = append(all, r)
		if w%2 == 0 {
			staying = append(staying, r)
		}
	}
	return all, staying
}

// rises asks whether the chain of a level of a memory rises.
func rises(t *testing.T, stand []uint64, p api.Plan, level int) {
	t.Helper()
	all, _ := walk(t, stand, p, level)
	keyOf := func(r uint64) api.Key {
		return api.Key{Deadline: int(stand[deadAt(p, indexOf(r))]), Seq: stand[seqAt(p, indexOf(r))]}
	}
	for i := 1; i < len(all); i++ {
		if !less(keyOf(all[i-1]), keyOf(all[i])) {
			t.Fatalf("the chain %v of the level %d does not rise at the place %d", all, level, i)
		}
	}
}

// places tells by 18.2 what is found at a level: the last one without a mark that is less than the key, and the first one without a mark that is not.
func places(l []member, level int, k api.Key) (pred, succ uint64) {
	for _, m := range at(l, level) {
		switch {
		case m.out[level]:
		case less(m.key, k):
			pred = m.ref
		case succ == 0:
			succ = m.ref
		}
	}
	return pred, succ
}

// alone does a job alone to the chains of sorted members, of which none is in its slot nor has its key, and asks whether it is in the lowest one then, which rises, and has all that it had without a mark.
func alone(t *testing.T, j job, l []member, before uint64) {
	t.Helper()
	p := j.plan
	stand := made(t, p).Words()
	lay(stand, p, l)
	slot := indexOf(j.ref)
	stand[deadAt(p, slot)], stand[seqAt(p, slot)] = word(j.key.Deadline), j.key.Seq
	for h := range p.Levels {
		stand[nextAt(p, slot, h)] = before
	}
	c, fast := memory(t, stand), j.link()
	got := task.Play(c, fast, 9000)
	now := c.Words()
	var preds, succs []uint64
	for h := range p.Levels {
		pred, succ := places(l, h, j.key)
		preds, succs = append(preds, pred), append(succs, succ)
		_, was := walk(t, stand, p, h)
		_, is := walk(t, now, p, h)
		if h == 0 {
			i := slices.Index(was, pred) + 1
			was = slices.Insert(was, i, j.ref)
		}
		if !slices.Equal(was, is) {
			t.Fatalf("%v are in the chain of the level %d, not %v", is, h, was)
		}
		way := before
		if h < j.tall {
			way = succ
		}
		if w := now[nextAt(p, slot, h)]; w != way {
			t.Fatalf("the timer's way on is %d, not %d, at the level %d", w, way, h)
		}
		rises(t, now, p, h)
	}
	if w := now[nextAt(p, indexOf(preds[0]), 0)]; w != j.ref {
		t.Fatalf("the way on of %d leads to %d, not to %d", preds[0], w, j.ref)
	}
	ended(t, fast, preds, succs)
	found, over := j.played(stand, 9000)
	if !over || !slices.Equal(got, found) {
		t.Fatalf("%v was found, not %v", got, found)
	}
	stands(t, c, stand)
}

// 20.2: done alone, in all chains of three slots and two levels that the chapter tells apart (in each chain, not in it, going out of it), in many of their orders, of each key that is less, between, or greater, of each height.
func TestAloneInAllSmallChains(t *testing.T) {
	p := api.Plan{Threads: 1, Slots: 4, Levels: 2}
	keys := []api.Key{{Deadline: -1, Seq: 9}, {Deadline: 4, Seq: 4}, {Deadline: 4, Seq: 8}}
	asked := []api.Key{{Deadline: -2, Seq: 99}, {Deadline: -1, Seq: 8}, {Deadline: 0, Seq: 0}, {Deadline: 4, Seq: 5}, {Deadline: 4, Seq: 9}, {Deadline: math.MaxInt}}
	// Of two levels, from the lower one on: in the chain (1), going out of it (2), or not in it (0). Whoever stays in the higher one stays in the lower one too.
	ways := [][2]int{{0, 0}, {1, 0}, {2, 0}, {0, 2}, {1, 2}, {2, 2}, {1, 1}}
	for turn, order := range [][]int{{1, 2, 3, 4}, {4, 3, 2, 1}, {2, 4, 1, 3}, {3, 4, 1, 2}} {
		for n := range 343 {
			l := make([]member, 3)
			for i, way := range []int{n / 49, n / 7 % 7, n % 7} {
				l[i] = member{ref: ref(uint64(i)*lastGen/2, order[i]), key: keys[i]}
				for h, state := range ways[way] {
					l[i].in[h], l[i].out[h] = state != 0, state == 2
				}
			}
			for _, k := range asked {
				for tall := 1; tall < 4; tall++ {
					alone(t, job{p, ref(lastGen/3*uint64(turn), order[3]), k, tall}, l, words[n%len(words)])
				}
			}
		}
	}
}

// chance makes sorted members of chance of a plan, of all slots but one, of which in the mean one of so many is going out of chains.
func chance(r *rand.Rand, p api.Plan, but, outs int) []member {
	var l []member
	seen := map[api.Key]bool{}
	for slot := 1; slot <= p.Slots; slot++ {
		k := api.Key{Deadline: r.Intn(9) - 4, Seq: uint64(r.Intn(9))}
		if r.Intn(4) == 0 {
			k = api.Key{Deadline: deadlines[r.Intn(len(deadlines))], Seq: seqs[r.Intn(len(seqs))]}
		}
		if slot == but || seen[k] || r.Intn(8) == 0 {
			continue
		}
		seen[k] = true
		m := member{ref: ref([]uint64{0, 1, uint64(r.Uint32()), lastGen}[r.Intn(4)], slot), key: k}
		tall := 1 + r.Intn(p.Levels)
		stay := tall
		if r.Intn(outs) == 0 {
			stay = r.Intn(tall + 1)
		}
		for h := range tall {
			m.out[h] = h >= stay
			m.in[h] = h < stay || r.Intn(3) > 0
		}
		l = append(l, m)
	}
	return sorted(l)
}

// keysOf are neighbours of keys that stand there, and the edges, but no key that stands there.
func keysOf(r *rand.Rand, l []member) []api.Key {
	all := []api.Key{{Deadline: math.MinInt}, {Deadline: math.MaxInt, Seq: math.MaxUint64}, {}}
	for _, m := range l {
		k := m.key
		all = append(all, api.Key{Deadline: k.Deadline, Seq: k.Seq + 1}, api.Key{Deadline: k.Deadline, Seq: k.Seq - 1}, api.Key{Deadline: k.Deadline + 1, Seq: k.Seq}, api.Key{Deadline: k.Deadline - 1, Seq: k.Seq})
	}
	all = slices.DeleteFunc(all, func(k api.Key) bool {
		return slices.ContainsFunc(l, func(m member) bool { return m.key == k })
	})
	r.Shuffle(len(all), func(i, j int) { all[i], all[j] = all[j], all[i] })
	return all[:min(len(all), 10)]
}

// 20.2: done alone, in chains of chance of all right plans, with no slot, with one and with many, with none going out, with some, and with all.
func TestAloneInChainsOfChance(t *testing.T) {
	r := rand.New(rand.NewSource(202))
	for _, p := range rightPlans() {
		for _, outs := range []int{1, 2, 5, 1 << 30} {
			for range 4 {
				slot := 1 + r.Intn(p.Slots)
				l := chance(r, p, slot, outs)
				for _, k := range keysOf(r, l) {
					gen := []uint64{0, 1, uint64(r.Uint32()), lastGen}[r.Intn(4)]
					alone(t, job{p, ref(gen, slot), k, 1 + r.Intn(p.Levels+1)}, l, words[r.Intn(len(words))])
				}
			}
		}
	}
}

// 20.1: of a key that stands there already it comes to stand ahead of that one.
func TestKeyThatStandsThere(t *testing.T) {
	r := rand.New(rand.NewSource(203))
	for _, p := range rightPlans() {
		slot := 1 + r.Intn(p.Slots)
		l := chance(r, p, slot, 3)
		for _, m := range at(l, 0) {
			if m.out[0] {
				continue
			}
			stand := made(t, p).Words()
			lay(stand, p, l)
			c := memory(t, stand)
			k := Link(p, ref(7, slot), m.key, 1)
			task.Play(c, k, 9000)
			pred, _ := places(l, 0, m.key)
			now := c.Words()
			if k.Preds()[0] != pred || k.Succs()[0] != m.ref || now[nextAt(p, indexOf(pred), 0)] != ref(7, slot) || now[nextAt(p, slot, 0)] != m.ref {
				t.Fatalf("it stands between %v and %v", k.Preds(), k.Succs())
			}
		}
	}
}

// 20.2: timers that are made in all slots of right plans and come into the lowest chain one behind the other, in any order of their deadlines: behind each of them that chain has all so far, and rises; the others are as they were.
func TestOneBehindTheOther(t *testing.T) {
	r := rand.New(rand.NewSource(204))
	for _, p := range rightPlans() {
		for range 3 {
			c := made(t, p)
			var l []member
			for _, n := range r.Perm(p.Slots) {
				m := mint.Mint(p, n+1, r.Intn(9), 1+r.Intn(p.Levels))
				task.Play(c, m, 99)
				one := member{ref: m.Ref(), key: m.Key()}
				one.in[0] = true
				l = sorted(append(l, one))
				k := Link(p, m.Ref(), m.Key(), int(c.Load(plan.Tall(p, n+1))))
				task.Play(c, k, 9000)
				stand := c.Words()
				all, staying := walk(t, stand, p, 0)
				if !slices.EqualFunc(l, all, func(m member, r uint64) bool { return m.ref == r }) || len(staying) != len(all) {
					t.Fatalf("%v are in the chain, not %v", all, l)
				}
				rises(t, stand, p, 0)
				for h := 1; h < p.Levels; h++ {
					if w := stand[nextAt(p, 0, h)]; w != 0 {
						t.Fatalf("the head's way on is %d at the level %d", w, h)
					}
				}
			}
		}
	}
}

// turn is a linker under way: its job, and what it was told.
type turn struct {
	fast *Linker
	job  job
	told []uint64
}

// step lets the linker do one step, held against what stands by the chapter's sentences, and tells whether it was the last one.
func (g *turn) step(t *testing.T, c *cells.Cells) bool {
	t.Helper()
	want := same(t, g.fast, g.job, g.told)
	stand := c.Words()
	found := slow(stand, want.asked[len(want.asked)-1])
	if got := task.Play(c, g.fast, 1); len(got) != 1 || got[0] != found {
		t.Fatalf("%v was found at one step, not %d", got, found)
	}
	stands(t, c, stand)
	g.told = append(g.told, found)
	if _, more := g.fast.Next(); more {
		return false
	}
	return same(t, g.fast, g.job, g.told).over
}

// two are the linkers of two timers, in the slots 1 and 2, beside one of the deadline 5 in the slot 3, that is in the lowest chain.
func two(t *testing.T, first, second int) (*cells.Cells, []*turn) {
	t.Helper()
	c := made(t, small)
	c.Store(nextAt(small, 0, 0), 6)
	c.Store(deadAt(small, 3), 5)
	var now []*turn
	for i, d := range []int{first, second} {
		j := job{small, ref(0, i+1), api.Key{Deadline: d, Seq: uint64(i + 1)}, 1 + i}
		c.Store(deadAt(small, i+1), word(d))
		c.Store(seqAt(small, i+1), uint64(i+1))
		now = append(now, &turn{fast: j.link(), job: j})
	}
	return c, now
}

// 20.1: two timers that come to one place, or to two, in all orders of their steps: both are in the lowest chain then, which rises, and whoever came between another one's seek and Swap made that one seek anew.
func TestTwoInAllOrders(t *testing.T) {
	again := 0
	for _, d := range [][2]int{{3, 4}, {4, 3}, {4, 4}, {3, 7}, {7, 3}, {7, 8}, {8, 7}, {5, 5}} {
		for order := range 1 << 12 {
			c, now := two(t, d[0], d[1])
			over := [2]bool{}
			for n := 0; !over[0] || !over[1]; n++ {
				i := order >> min(n, 12) & 1
				if over[i] {
					i = 1 - i
				}
				over[i] = now[i].step(t, c)
			}
			all, staying := walk(t, c.Words(), small, 0)
			if len(all) != 3 || len(staying) != 3 {
				t.Fatalf("%v are in the chain, of the deadlines %v, in the order %b", all, d, order)
			}
			rises(t, c.Words(), small, 0)
			again += now[0].job.tale(now[0].told).again + now[1].job.tale(now[1].told).again
		}
	}
	if again < 1000 {
		t.Errorf("they came to step 1 anew %d times only", again)
	}
}

// crowd is a memory of chains into which timers come, and out of which timers go.
type crowd struct {
	cells *cells.Cells
	plan  api.Plan
	come  []member        // who has a key, but no linker yet
	now   []*turn         // whose linker is under way
	goer  int             // the slot of whoever is going out; 0: nobody
	level int             // at which its way on was marked last
	stay  map[uint64]bool // who is in the lowest chain without a mark
}

// gather makes a crowd of a right plan, of which each other one is in the chains from the beginning on.
func gather(t *testing.T, r *rand.Rand, p api.Plan) *crowd {
	t.Helper()
	stand := made(t, p).Words()
	g := &crowd{plan: p, stay: map[uint64]bool{}}
	var there []member
	for i, m := range chance(r, p, 0, 4) {
		if i%2 == 1 {
			there = append(there, m)
			g.stay[m.ref] = m.in[0] && !m.out[0]
			continue
		}
		g.come = append(g.come, m)
		slot := indexOf(m.ref)
		stand[deadAt(p, slot)], stand[seqAt(p, slot)] = word(m.key.Deadline), m.key.Seq
	}
	lay(stand, p, there)
	r.Shuffle(len(g.come), func(i, j int) { g.come[i], g.come[j] = g.come[j], g.come[i] })
	g.cells = memory(t, stand)
	return g
}

// begin lets the next one begin to come.
func (g *crowd) begin(r *rand.Rand) {
	if len(g.come) > 0 {
		j := job{g.plan, g.come[0].ref, g.come[0].key, 1 + r.Intn(g.plan.Levels)}
		g.now, g.come = append(g.now, &turn{fast: j.link(), job: j}), g.come[1:]
	}
}

// leave lets whoever is going out mark its next way on, from above; if nobody is, one of the lowest chain begins to.
func (g *crowd) leave(t *testing.T, r *rand.Rand) {
	t.Helper()
	if g.goer == 0 {
		if _, in := walk(t, g.cells.Words(), g.plan, 0); len(in) > 0 {
			g.goer, g.level = indexOf(in[r.Intn(len(in))]), g.plan.Levels
		}
		return
	}
	g.level--
	way := nextAt(g.plan, g.goer, g.level)
	g.cells.Store(way, g.cells.Load(way)|1)
	if g.level > 0 {
		return
	}
	for m := range g.stay {
		if indexOf(m) == g.goer {
			g.stay[m] = false
		}
	}
	g.goer = 0
}

// step lets one of the linkers do one step, and tells how often it sought anew, and true, if it was its last one.
func (g *crowd) step(t *testing.T, r *rand.Rand) (again int, over bool) {
	t.Helper()
	if len(g.now) == 0 {
		return 0, false
	}
	i := r.Intn(len(g.now))
	k := g.now[i]
	if !k.step(t, g.cells) {
		return 0, false
	}
	g.stay[k.job.ref] = true
	g.now = slices.Delete(g.now, i, i+1)
	return k.job.tale(k.told).again, true
}

// here asks whether just those that stay are in the lowest chain without a mark, which rises.
func (g *crowd) here(t *testing.T) {
	t.Helper()
	stand := g.cells.Words()
	_, in := walk(t, stand, g.plan, 0)
	rises(t, stand, g.plan, 0)
	n := 0
	for r, is := range g.stay {
		if is {
			n++
			if !slices.Contains(in, r) {
				t.Fatalf("%d is not in the chain %v", r, in)
			}
		}
	}
	if n != len(in) {
		t.Fatalf("%v are in the chain, not %v", in, g.stay)
	}
}

// 20.1: several timers that come by turns into chains out of which others go meanwhile: each step is the one that the chapter's sentences say; and whoever came is in the lowest chain from then on, till it goes out itself, that chain always rises, and none is lost.
func TestInTurns(t *testing.T) {
	r := rand.New(rand.NewSource(205))
	again, ends := 0, 0
	for _, p := range rightPlans() {
		for range 6 {
			g := gather(t, r, p)
			for len(g.come) > 0 || len(g.now) > 0 {
				switch n := r.Intn(12); {
				case n == 0:
					g.begin(r)
				case n < 3:
					g.leave(t, r)
				default:
					if n, over := g.step(t, r); over {
						again += n
						ends++
					}
				}
				g.here(t)
			}
		}
	}
	if again < 2000 || ends < 1000 {
		t.Errorf("they came to step 1 anew %d times only, and to their ends %d times", again, ends)
	}
}
