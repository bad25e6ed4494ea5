package settle

import (
	"math"
	"math/rand"
	"slices"
	"testing"

	"sundial/api"
	"sundial/blank"
	"sundial/cells"
	"sundial/lift"
	"sundial/link"
	"sundial/mark"
	"sundial/mint"
	"sundial/plan"
	"sundial/refer"
	"sundial/seek"
	"sundial/task"
)

// half is how often a lower half goes into a word: a word is its high half times half, and its low half.
const half = 4294967296

// lastGen and lastIndex are the greatest generation and index that a reference has.
const (
	lastGen   = 4294967295
	lastIndex = 2147483647
)

// words are the edges of a word.
var words = []uint64{0, 1, 2, 3, 4, 5, 6, 7, 128, 129, 130, 131, 1<<31 - 1, 1 << 31, half - 2, half - 1, half, half + 1, half + 2, half + 3, 1<<63 - 1, 1 << 63, 1<<63 + 1, 1<<63 + 2, lastGen * half, lastGen*half + 1, lastGen*half + 2, math.MaxUint64 - 1, math.MaxUint64}

// deadlines and seqs are the edges of a key's parts.
var (
	deadlines = []int{math.MinInt, math.MinInt + 1, -api.MaxTime, -2, -1, 0, 1, 2, 5, api.MaxTime, api.Never, math.MaxInt - 1, math.MaxInt}
	seqs      = []uint64{0, 1, 2, 7, half - 1, half, 1<<63 - 1, 1 << 63, 1<<63 + 1, math.MaxUint64 - 1, math.MaxUint64}
)

// flat and small are plans of which the head's ways on stand from 7 on; of flat the slots' words Dead are at 9, 16 and 23, Seq at 10, 17 and 24, Hold at 12, 19 and 26, Next at 14, 21 and 28; of small Dead is at 10, 18 and 26, Seq at 11, 19 and 27, Hold at 13, 21 and 29, Next from 15, 23 and 31 on.
var (
	flat  = api.Plan{Threads: 1, Slots: 3, Levels: 1}
	small = api.Plan{Threads: 1, Slots: 3, Levels: 2}
)

// a and b are references to the slots 1 and 2, and am and bm those with the mark; mine is one to the slot 3, which is let go of, and minem that with the mark.
const (
	a     = 5*half + 2
	am    = 5*half + 3
	b     = 7*half + 4
	bm    = 7*half + 5
	mine  = 9*half + 6
	minem = 9*half + 7
)

// key is one between all edges.
var key = api.Key{Deadline: 20, Seq: 30}

// rightPlans are such of which each number is the least, one between, or the greatest.
func rightPlans() []api.Plan {
	var l []api.Plan
	for _, threads := range []int{1, 3, 8} {
		for _, slots := range []int{1, 2, 5, 64} {
			for _, levels := range []int{1, 2, 4, 8} {
				l = append(l, api.Plan{Threads: threads, Slots: slots, Levels: levels, Gen: []uint64{0, 1, lastGen}[len(l)%3]})
			}
		}
	}
	return l
}

// wrongPlans are those of which one number alone is none that there is, and those of which several are.
func wrongPlans() []api.Plan {
	l := []api.Plan{{}, {Threads: -1, Slots: -1, Levels: -1}, {Threads: 9, Slots: 65, Levels: 9, Gen: half}, {Threads: math.MaxInt, Slots: math.MaxInt, Levels: math.MaxInt, Gen: math.MaxUint64}, {Threads: math.MinInt, Slots: math.MinInt, Levels: math.MinInt}}
	for _, n := range []int{math.MinInt, math.MinInt + 1, -1<<32 + 2, -64, -1, 0, 9, 65, 1000, 1 << 31, 1<<32 + 2, math.MaxInt - 1, math.MaxInt} {
		l = append(l, api.Plan{Threads: n, Slots: 3, Levels: 3}, api.Plan{Threads: 2, Slots: n, Levels: 3}, api.Plan{Threads: 2, Slots: 3, Levels: n})
	}
	for _, gen := range []uint64{half, half + 1, 1 << 63, math.MaxUint64} {
		l = append(l, api.Plan{Threads: 2, Slots: 3, Levels: 3, Gen: gen})
	}
	return l
}

// allPlans are those that are right, and those that are not.
func allPlans() []api.Plan {
	return append(rightPlans(), wrongPlans()...)
}

// ref puts a reference together.
func ref(gen uint64, index int) uint64 { return gen*half + 2*uint64(index) }

// indexOf tells the index of a reference.
func indexOf(r uint64) int { return int(r % half / 2) }

// firstAt tells where a slot's words begin, by chapter 8's sums; nextAt where its way on at a level stands, the head's of the slot 0; deadAt and seqAt where the timer's deadline and number stand, and holdAt how many hold it.
func firstAt(p api.Plan, slot int) int { return 4 + 3*p.Threads + p.Levels + (slot-1)*(6+p.Levels) }
func nextAt(p api.Plan, slot, level int) int {
	if slot == 0 {
		return 4 + 3*p.Threads + level
	}
	return firstAt(p, slot) + 6 + level
}
func deadAt(p api.Plan, slot int) int { return firstAt(p, slot) + 1 }
func seqAt(p api.Plan, slot int) int  { return firstAt(p, slot) + 2 }
func holdAt(p api.Plan, slot int) int { return firstAt(p, slot) + 4 }

// Deeds by their kinds, for short: a load, a swap, and the addition that takes one away.
func read(at int, by uint64) api.Deed { return api.Deed{Kind: 1, At: at, By: by} }
func swap(at int, old, w, by uint64) api.Deed {
	return api.Deed{Kind: 3, At: at, A: old, B: w, By: by}
}
func less1(at int, by uint64) api.Deed {
	return api.Deed{Kind: 4, At: at, A: 18446744073709551615, By: by}
}

// epoch is the load of the epoch.
var epoch = api.Deed{Kind: 1, At: 0}

// job is what Settle is asked.
type job struct {
	plan api.Plan
	ref  uint64
	key  api.Key
}

// settle makes the settler of a job.
func (j job) settle() *Settler { return Settle(j.plan, j.ref, j.key) }

// less tells whether a key is less than another one, by chapter 3's sentence.
func less(x, y api.Key) bool {
	return x.Deadline < y.Deadline || x.Deadline == y.Deadline && x.Seq < y.Seq
}

// seekOf tells by chapter 18's sentences what Seek of p and k comes to, each deed being done by ask; false, if that does no more. Again is how often it began anew.
func seekOf(p api.Plan, k api.Key, ask func(api.Deed) (uint64, bool)) (again int, ok bool) {
	var w, n, d, s, pred, cur uint64
	var h int
	var smaller bool
one:
	if p.Levels <= 0 {
		return again, true
	}
	pred, h = 0, p.Levels-1
two:
	if w, ok = ask(read(nextAt(p, indexOf(pred), h), pred)); !ok {
		return again, false
	}
	if w%2 == 1 {
		again++
		goto one
	}
	cur = w
three:
	if indexOf(cur) == 0 {
		goto seven
	}
	if n, ok = ask(read(nextAt(p, indexOf(cur), h), cur)); !ok {
		return again, false
	}
	if n%2 == 1 {
		if w, ok = ask(swap(nextAt(p, indexOf(pred), h), cur, n-1, pred)); !ok {
			return again, false
		}
		if w != cur {
			again++
			goto one
		}
		cur = n - 1
		goto three
	}
	if d, ok = ask(read(deadAt(p, indexOf(cur)), cur)); !ok {
		return again, false
	}
	smaller = int(d) < k.Deadline
	if int(d) == k.Deadline {
		if s, ok = ask(read(seqAt(p, indexOf(cur)), cur)); !ok {
			return again, false
		}
		smaller = s < k.Seq
	}
	if smaller {
		pred, cur = cur, n
		goto three
	}
seven:
	if h > 0 {
		h--
		goto two
	}
	return again, true
}

// What a deed of a tale is for.
const (
	holding = iota // step 1
	seeking        // step 2
	dating         // step 3
)

// tale is what a Settle comes to by the chapter's sentences.
type tale struct {
	asked   []api.Deed // one behind the other; the last one is asked for still, if it is not over
	what    int        // for what the last one is
	over    bool       // whether it is done
	retired api.Retired
	waits   bool // whether anything is retired
	again   int  // how often the seek began anew
}

// tale tells by the chapter's sentences what a job comes to, when it is told l.
func (j job) tale(l []uint64) (out tale) {
	told := 0
	ask := func(d api.Deed) (uint64, bool) {
		out.asked = append(out.asked, d)
		if told == len(l) {
			return 0, false
		}
		told++
		return l[told-1], true
	}
	out.what = holding
	found, ok := ask(less1(holdAt(j.plan, indexOf(j.ref)), j.ref))
	if !ok {
		return out
	}
	if found != 1 {
		out.over = true
		return out
	}
	out.what = seeking
	if out.again, ok = seekOf(j.plan, j.key, ask); !ok {
		return out
	}
	out.what = dating
	e, ok := ask(epoch)
	if !ok {
		return out
	}
	out.over, out.waits, out.retired = true, true, api.Retired{Ref: j.ref, Epoch: e}
	return out
}

// slow does a deed of chapter 7 to words, and tells what was found.
func slow(stand []uint64, d api.Deed) uint64 {
	if d.At < 0 || d.At >= len(stand) {
		return 0
	}
	was := stand[d.At]
	switch {
	case d.Kind == 3 && was == d.A:
		stand[d.At] = d.B
	case d.Kind == 4:
		stand[d.At] += d.A
	}
	return was
}

// played tells by the chapter's sentences what a job finds, done alone to words, which are turned; false, if it is not done behind so many steps.
func (j job) played(stand []uint64, most int) ([]uint64, bool) {
	var found []uint64
	for range most {
		now := j.tale(found)
		if now.over {
			return found, true
		}
		found = append(found, slow(stand, now.asked[len(now.asked)-1]))
	}
	return found, j.tale(found).over
}

// retires asks whether a settler tells that this is retired, or that nothing is, again and again.
func retires(t *testing.T, k *Settler, r api.Retired, waits bool) {
	t.Helper()
	for range 2 {
		if got, ok := k.Retired(); got != r || ok != waits {
			t.Fatalf("%+v is retired (%v), not %+v (%v)", got, ok, r, waits)
		}
	}
}

// asks asks whether a settler asks for d, and tells that nothing is retired, again and again.
func asks(t *testing.T, k *Settler, d api.Deed) {
	t.Helper()
	for range 3 {
		if got, more := k.Next(); got != d || !more {
			t.Fatalf("%+v is asked for (%v), not %+v", got, more, d)
		}
		retires(t, k, api.Retired{}, false)
	}
}

// ended asks whether a settler is done, has retired this, or nothing, and stays so whatever it is told.
func ended(t *testing.T, k *Settler, r api.Retired, waits bool) {
	t.Helper()
	for _, found := range []uint64{0, 1, 2, a, am, 20, 30, 1, 1, math.MaxUint64, 0} {
		if got, more := k.Next(); got != (api.Deed{}) || more {
			t.Fatalf("%+v is asked for (%v) by a task that is done", got, more)
		}
		retires(t, k, r, waits)
		k.Tell(found)
	}
	if got, more := k.Next(); got != (api.Deed{}) || more {
		t.Fatalf("a task that is done went on to %+v (%v)", got, more)
	}
	retires(t, k, r, waits)
}

// step is a deed that is asked for, and what is told then.
type step struct {
	asked api.Deed
	found uint64
}

// goes asks whether a settler asks for the deeds of l, and has found these then.
func goes(t *testing.T, k *Settler, l []step) {
	t.Helper()
	for _, s := range l {
		asks(t, k, s.asked)
		k.Tell(s.found)
	}
}

// keeps asks whether a job's settler asks for the deeds of l, is done then, and has retired nothing.
func keeps(t *testing.T, j job, l ...step) {
	t.Helper()
	k := j.settle()
	goes(t, k, l)
	ended(t, k, api.Retired{}, false)
}

// settles asks whether a job's settler finds 1 by its Add, asks for the deeds of l, then loads the epoch e, is done then, and has retired the job's slot.
func settles(t *testing.T, j job, e uint64, l ...step) {
	t.Helper()
	k := j.settle()
	goes(t, k, []step{{less1(holdAt(j.plan, indexOf(j.ref)), j.ref), 1}})
	goes(t, k, l)
	goes(t, k, []step{{epoch, e}})
	ended(t, k, api.Retired{Ref: j.ref, Epoch: e}, true)
}

// empty are the steps of a seek that comes upon no slot.
func empty(p api.Plan) []step {
	var l []step
	for n := range max(p.Levels, 0) {
		l = append(l, step{read(nextAt(p, 0, p.Levels-1-n), 0), 0})
	}
	return l
}

// same asks whether a job's settler that was told l stands where the chapter's sentences say.
func same(t *testing.T, k *Settler, j job, l []uint64) tale {
	t.Helper()
	want := j.tale(l)
	got, more := k.Next()
	if more == want.over || want.over && got != (api.Deed{}) || more && got != want.asked[len(want.asked)-1] {
		t.Fatalf("Settle of %+v, told %v, asks for %+v (%v), not as %+v", j, l, got, more, want)
	}
	retires(t, k, want.retired, want.waits)
	return want
}

// made makes the memory at the beginning of a right plan.
func made(t *testing.T, p api.Plan) *cells.Cells {
	t.Helper()
	c, err := blank.Make(p)
	if err != api.OK {
		t.Fatalf("no memory of %+v: %d", p, err)
	}
	return c
}

// memory makes a memory of words.
func memory(t *testing.T, l []uint64) *cells.Cells {
	t.Helper()
	c, err := cells.Of(l)
	if err != api.OK {
		t.Fatal(err)
	}
	return c
}

// stands asks whether a memory has just these words.
func stands(t *testing.T, c *cells.Cells, l []uint64) {
	t.Helper()
	if got := c.Words(); !slices.Equal(got, l) {
		t.Fatalf("%v stand, not %v", got, l)
	}
}

// word is a number as a word.
func word(n int) uint64 { return uint64(n) }

// row is a list of n words w.
func row(n int, w uint64) []uint64 {
	l := make([]uint64, n)
	for i := range l {
		l[i] = w
	}
	return l
}

// 23.1: the chapter's example, in numbers and done alone: while somebody else holds the timer it is done in one step, which changes the one word alone.
func TestExample(t *testing.T) {
	keeps(t, job{small, mine, key}, step{less1(29, mine), 2})
	for _, p := range rightPlans() {
		c, r := made(t, p), ref(p.Gen, p.Slots)
		c.Store(holdAt(p, p.Slots), 2)
		stand := c.Words()
		k := Settle(p, r, key)
		if l := task.Play(c, k, 99); !slices.Equal(l, []uint64{2}) {
			t.Fatalf("%v was found of a timer that two hold", l)
		}
		ended(t, k, api.Retired{}, false)
		stand[holdAt(p, p.Slots)] = 1
		stands(t, c, stand)
	}
}

// 23.1: the last one, at the beginning, in numbers and done alone: the hold, the head's way on at each level, and the epoch.
func TestLast(t *testing.T) {
	settles(t, job{small, mine, key}, 6, step{read(8, 0), 0}, step{read(7, 0), 0})
	settles(t, job{flat, mine, key}, 6, step{read(7, 0), 0})
	for _, p := range rightPlans() {
		c, r := made(t, p), ref(p.Gen, p.Slots)
		c.Store(holdAt(p, p.Slots), 1)
		c.Store(0, 77)
		stand := c.Words()
		k := Settle(p, r, key)
		if l := task.Play(c, k, 99); !slices.Equal(l, slices.Concat([]uint64{1}, row(p.Levels, 0), []uint64{77})) {
			t.Fatalf("%v was found at the beginning of %+v", l, p)
		}
		ended(t, k, api.Retired{Ref: r, Epoch: 77}, true)
		stand[holdAt(p, p.Slots)] = 0
		stands(t, c, stand)
	}
}

// 23.1: each deed in the names of api's, of layer 2 and of layer 8.
func TestDeedsByName(t *testing.T) {
	p := api.Plan{Threads: 2, Slots: 3, Levels: 2, Gen: 9}
	x, y, r := refer.Of(3, 1), refer.Of(4, 3), refer.Of(5, 2)
	k := Settle(p, r, api.Key{Deadline: 8, Seq: 5})
	goes(t, k, []step{
		{api.Deed{Kind: api.Add, At: plan.Hold(p, 2), A: math.MaxUint64, By: r}, 1},
		{api.Deed{Kind: api.Load, At: plan.Next(p, 0, 1)}, r},
		{api.Deed{Kind: api.Load, At: plan.Next(p, 2, 1), By: r}, refer.Mark(y)},
		{api.Deed{Kind: api.Swap, At: plan.Next(p, 0, 1), A: r, B: y}, r},
		{api.Deed{Kind: api.Load, At: plan.Next(p, 3, 1), By: y}, 0},
		{api.Deed{Kind: api.Load, At: plan.Dead(p, 3), By: y}, 9},
		{api.Deed{Kind: api.Load, At: plan.Next(p, 0, 0)}, x},
		{api.Deed{Kind: api.Load, At: plan.Next(p, 1, 0), By: x}, r},
		{api.Deed{Kind: api.Load, At: plan.Dead(p, 1), By: x}, 8},
		{api.Deed{Kind: api.Load, At: plan.Seq(p, 1), By: x}, 4},
		{api.Deed{Kind: api.Load, At: plan.Next(p, 2, 0), By: r}, refer.Mark(0)},
		{api.Deed{Kind: api.Swap, At: plan.Next(p, 1, 0), A: r, B: 0, By: x}, r},
		{api.Deed{Kind: api.Load, At: api.AtEpoch}, 4},
	})
	ended(t, k, api.Retired{Ref: r, Epoch: 4}, true)
}

// 23.1: the Add finds 0, 2, the greatest word, any other one, or one that is not 1 by one bit alone: it is done, and has retired nothing; of 1 alone it goes on.
func TestHold(t *testing.T) {
	others := append([]uint64{mine, minem, a, half + 1, 1<<63 + 1}, words...)
	for bit := range 64 {
		others = append(others, 1^1<<bit)
	}
	for _, p := range allPlans() {
		j := job{p, mine, key}
		for _, found := range others {
			if found != 1 {
				keeps(t, j, step{less1(holdAt(p, 3), mine), found})
			}
		}
		if p.Levels <= 0 {
			settles(t, j, 9)
			continue
		}
		k := j.settle()
		goes(t, k, []step{{less1(holdAt(p, 3), mine), 1}})
		asks(t, k, read(nextAt(p, 0, p.Levels-1), 0))
	}
}

// 23.1: done alone to what the words say, the Add takes one away, round the end.
func TestHoldInAMemory(t *testing.T) {
	for _, w := range words {
		c := made(t, small)
		c.Store(holdAt(small, 3), w)
		stand := c.Words()
		task.Play(c, Settle(small, mine, key), 1)
		stand[holdAt(small, 3)] = w - 1
		stands(t, c, stand)
	}
}

// 23.1: of no level, and of fewer, it loads the epoch at once behind the Add, whatever it is asked else.
func TestNoLevel(t *testing.T) {
	for _, levels := range []int{0, -1, -2, -9, -1 << 32, -1<<32 + 2, -1 << 62, math.MinInt + 1, math.MinInt} {
		for _, n := range []int{1, 3, 0, -1, math.MaxInt, math.MinInt} {
			p := api.Plan{Threads: n, Slots: n, Levels: levels}
			for _, r := range []uint64{0, 1, a, mine, minem, ref(lastGen, lastIndex), math.MaxUint64} {
				settles(t, job{p, r, key}, 5)
				keeps(t, job{p, r, key}, step{less1(holdAt(p, indexOf(r)), r), 2})
			}
		}
	}
	// The words that there are turn as the steps say.
	p := api.Plan{Threads: 1, Slots: 3}
	c := memory(t, []uint64{8, 0, 0, 0, 0, 0, 0, 0, 0, 0, 0, 1})
	k := Settle(p, ref(4, 1), key)
	if l := task.Play(c, k, 9); !slices.Equal(l, []uint64{1, 8}) {
		t.Fatalf("%v was found of no level", l)
	}
	ended(t, k, api.Retired{Ref: ref(4, 1), Epoch: 8}, true)
	stands(t, c, []uint64{8, 0, 0, 0, 0, 0, 0, 0, 0, 0, 0, 0})
}

// 23.1: a reference with or without the mark, of all generations, and of all indexes that there are, be there such a slot or not: its index leads to the word at the place of chapter 8's sum, By it, and it is retired, as it stands.
func TestReferences(t *testing.T) {
	for _, p := range allPlans() {
		for _, gen := range []uint64{0, 1, 1 << 31, lastGen - 1, lastGen} {
			for _, slot := range []int{0, 1, 2, p.Slots, p.Slots + 1, 64, 65, 1 << 30, lastIndex} {
				if slot < 0 || slot > lastIndex {
					continue
				}
				for _, r := range []uint64{ref(gen, slot), ref(gen, slot) + 1} {
					j := job{p, r, key}
					keeps(t, j, step{less1(holdAt(p, slot), r), 2})
					if p.Levels > 70 {
						continue
					}
					settles(t, j, gen, empty(p)...)
				}
			}
		}
	}
	for _, r := range words {
		settles(t, job{flat, r, key}, 7, step{read(7, 0), 0})
	}
}

// 23.1: references that the seek finds lead to the words at the places of chapter 8's sums, be there such slots or not.
func TestReferencesOfOthers(t *testing.T) {
	for _, p := range allPlans() {
		if p.Levels <= 0 {
			continue
		}
		top := p.Levels - 1
		for _, gen := range []uint64{0, 1, 1 << 31, lastGen} {
			for _, slot := range []int{1, 2, p.Slots, p.Slots + 1, 64, 65, 1 << 30, lastIndex} {
				if slot < 1 || slot > lastIndex {
					continue
				}
				r, k := ref(gen, slot), Settle(p, mine, key)
				goes(t, k, []step{
					{less1(holdAt(p, 3), mine), 1},
					{read(nextAt(p, 0, top), 0), r}, {read(nextAt(p, slot, top), r), b}, {read(deadAt(p, slot), r), 20}, {read(seqAt(p, slot), r), 29},
					{read(nextAt(p, 2, top), b), am}, {swap(nextAt(p, slot, top), b, a, r), b}, {read(nextAt(p, 1, top), a), 0},
				})
				asks(t, k, read(deadAt(p, 1), a))
			}
		}
	}
}

// 23.1: what the last load finds, of any word, is the epoch that is told.
func TestEpochs(t *testing.T) {
	for _, e := range append([]uint64{a, mine, minem}, words...) {
		settles(t, job{small, mine, key}, e, step{read(8, 0), 0}, step{read(7, 0), 0})
		settles(t, job{api.Plan{}, minem, key}, e)
		c := made(t, small)
		c.Store(0, e)
		c.Store(29, 1)
		k := Settle(small, mine, key)
		task.Play(c, k, 99)
		ended(t, k, api.Retired{Ref: mine, Epoch: e}, true)
	}
}

// 23.1: it is the key that is handed in that is sought: of Deadlines of all edges one that is less is passed, one that is greater is not, and of the same one the Seq is loaded, a number without a sign.
func TestKeys(t *testing.T) {
	for _, mid := range deadlines {
		for _, d := range deadlines {
			k := api.Key{Deadline: mid, Seq: 30}
			l := []step{{read(8, 0), a}, {read(16, a), 0}, {read(10, a), word(d)}}
			passed, not := step{read(15, a), 0}, step{read(7, 0), 0}
			switch {
			case d < mid:
				settles(t, job{small, mine, k}, 5, append(l, passed)...)
			case d > mid:
				settles(t, job{small, mine, k}, 5, append(l, not)...)
			default:
				settles(t, job{small, mine, k}, 5, append(l, step{read(11, a), 31}, not)...)
				settles(t, job{small, mine, k}, 5, append(l, step{read(11, a), 30}, not)...)
				settles(t, job{small, mine, k}, 5, append(l, step{read(11, a), 29}, passed)...)
			}
		}
		for _, s := range seqs {
			for _, found := range seqs {
				behind := step{read(7, 0), 0}
				if found < s {
					behind = step{read(15, a), 0}
				}
				settles(t, job{small, mine, api.Key{Deadline: mid, Seq: s}}, 5, step{read(8, 0), a}, step{read(16, a), 0}, step{read(10, a), word(mid)}, step{read(11, a), found}, behind)
			}
		}
	}
}

// 23.1: the timer itself, and others, are taken out where their ways on are marked: at the beginning, in the middle and at the end of a chain, at each level.
func TestTakenOut(t *testing.T) {
	settles(t, job{flat, mine, key}, 5, step{read(7, 0), mine}, step{read(28, mine), 1}, step{swap(7, mine, 0, 0), mine})
	settles(t, job{flat, mine, key}, 5, step{read(7, 0), mine}, step{read(28, mine), am}, step{swap(7, mine, a, 0), mine}, step{read(14, a), 0}, step{read(9, a), 21})
	settles(t, job{flat, mine, key}, 5, step{read(7, 0), a}, step{read(14, a), mine}, step{read(9, a), 19}, step{read(28, mine), bm}, step{swap(14, mine, b, a), mine}, step{read(21, b), 0}, step{read(16, b), 21})
	settles(t, job{flat, mine, key}, 5, step{read(7, 0), a}, step{read(14, a), bm}, step{swap(7, a, b, 0), a}, step{read(21, b), mine + 1}, step{swap(7, b, mine, 0), b}, step{read(28, mine), 1}, step{swap(7, mine, 0, 0), mine})
	settles(t, job{small, mine, key}, 5,
		step{read(8, 0), mine}, step{read(32, mine), bm}, step{swap(8, mine, b, 0), mine}, step{read(24, b), 0}, step{read(18, b), 21},
		step{read(7, 0), a}, step{read(15, a), mine}, step{read(10, a), 20}, step{read(11, a), 29}, step{read(31, mine), bm}, step{swap(15, mine, b, a), mine}, step{read(23, b), 0}, step{read(18, b), 20}, step{read(19, b), 31})
	// Where its own ways on are not marked it is left where it stands.
	settles(t, job{flat, mine, key}, 5, step{read(7, 0), mine}, step{read(28, mine), 0}, step{read(23, mine), 20}, step{read(24, mine), 30})
}

// 23.1: the seek comes upon no slot, whatever its generation: what is none ends a chain.
func TestNone(t *testing.T) {
	for _, gen := range []uint64{0, 1, 5, 1 << 31, lastGen} {
		none := gen * half
		settles(t, job{flat, mine, key}, 5, step{read(7, 0), none})
		settles(t, job{flat, mine, key}, 5, step{read(7, 0), a}, step{read(14, a), none}, step{read(9, a), 19})
		settles(t, job{flat, mine, key}, 5, step{read(7, 0), mine}, step{read(28, mine), none + 1}, step{swap(7, mine, none, 0), mine})
		settles(t, job{small, mine, key}, 5, step{read(8, 0), a}, step{read(16, a), none}, step{read(10, a), 0}, step{read(15, a), none})
	}
}

// 23.1: the seek begins anew where the way on of pred is marked, or a Swap finds any other word than it asked for; the Add is not done anew.
func TestSeekThatBeginsAnew(t *testing.T) {
	for _, marked := range []uint64{1, am, bm, minem, 3, half + 1, math.MaxUint64} {
		settles(t, job{small, mine, key}, 5,
			step{read(8, 0), marked},
			step{read(8, 0), a}, step{read(16, a), 0}, step{read(10, a), 21},
			step{read(7, 0), marked},
			step{read(8, 0), a}, step{read(16, a), 0}, step{read(10, a), 19},
			step{read(15, a), marked},
			step{read(8, 0), 0}, step{read(7, 0), 0})
	}
	for _, r := range []uint64{2, a, mine, ref(lastGen, lastIndex), ref(0, lastIndex), ref(lastGen, 1)} {
		others := append([]uint64{}, words...)
		for bit := range 64 {
			others = append(others, r^1<<bit)
		}
		own := nextAt(small, indexOf(r), 1)
		for _, other := range others {
			if other == r {
				continue
			}
			try := []step{{read(8, 0), r}, {read(own, r), bm}, {swap(8, r, b, 0), other}}
			settles(t, job{small, mine, key}, 5, slices.Concat(try, try, try, []step{{read(8, 0), 0}, {read(7, 0), 0}})...)
			settles(t, job{small, mine, key}, 5, slices.Concat(try, []step{{read(8, 0), r}, {read(own, r), 1}, {swap(8, r, 0, 0), r}, {read(7, 0), 0}})...)
		}
	}
}

// 23.1: it goes on as long as the seek begins anew, again and again, and keeps nothing of that.
func TestAgainAndAgain(t *testing.T) {
	k := Settle(small, mine, key)
	goes(t, k, []step{{less1(29, mine), 1}})
	for n := range uint64(5000) {
		x, y := ref(n, 1), ref(n+1, 2)
		goes(t, k, []step{
			{read(8, 0), x}, {read(16, x), 0}, {read(10, x), n % 20},
			{read(15, x), y}, {read(23, y), n*half + 1}, {swap(15, y, n*half, x), y + 1 - n%2*2},
			{read(8, 0), y + 1},
			{read(8, 0), x}, {read(16, x), y + 1}, {swap(8, x, y, 0), n},
		})
	}
	goes(t, k, []step{{read(8, 0), 0}, {read(7, 0), 0}, {epoch, 3}})
	ended(t, k, api.Retired{Ref: mine, Epoch: 3}, true)
}

// choices are words that may be found by a job's deed: those that the chapters tell apart, and others.
func choices(d api.Deed, what int, j job) []uint64 {
	switch {
	case what == holding:
		return []uint64{0, 1, 2, 1 + half, math.MaxUint64}
	case what == dating:
		return []uint64{0, 1, j.ref, math.MaxUint64}
	case d.Kind == 3:
		return []uint64{d.A, d.A + 1, d.B}
	}
	if slot := indexOf(d.By); slot != 0 {
		switch d.At {
		case deadAt(j.plan, slot):
			return []uint64{word(j.key.Deadline - 1), word(j.key.Deadline), word(j.key.Deadline + 1)}
		case seqAt(j.plan, slot):
			return []uint64{j.key.Seq - 1, j.key.Seq, j.key.Seq + 1}
		}
	}
	return []uint64{0, 1, a, bm, j.ref, j.ref ^ 1, 9 * half}
}

// 23.1: whatever of the words that the chapter tells apart is found at each of the first steps, it goes on as the chapter's sentences say.
func TestWhateverIsFound(t *testing.T) {
	for _, p := range []api.Plan{{}, flat, small, {Threads: 2, Slots: 3, Levels: 3}} {
		for _, r := range []uint64{mine, am} {
			for _, k := range []api.Key{{}, key, {Deadline: math.MinInt, Seq: math.MaxUint64}} {
				j := job{p, r, k}
				var l []uint64
				var fill func()
				fill = func() {
					fast := j.settle()
					for _, found := range l {
						fast.Tell(found)
					}
					want := same(t, fast, j, l)
					if want.over || len(l) == 6 {
						return
					}
					for _, found := range choices(want.asked[len(want.asked)-1], want.what, j) {
						l = append(l, found)
						fill()
						l = l[:len(l)-1]
					}
				}
				fill()
			}
		}
	}
}

// anyRef is a reference of chance, of an edge, with a mark or without, or any word.
func anyRef(r *rand.Rand) uint64 {
	switch r.Intn(4) {
	case 0:
		return r.Uint64()
	case 1:
		return words[r.Intn(len(words))]
	}
	return ref([]uint64{0, 1, uint64(r.Uint32()), lastGen}[r.Intn(4)], r.Intn(70)) + uint64(r.Intn(2))
}

// anyKey is a key of chance, or of the edges.
func anyKey(r *rand.Rand) api.Key {
	if r.Intn(2) == 0 {
		return api.Key{Deadline: int(r.Uint64()), Seq: r.Uint64()}
	}
	return api.Key{Deadline: deadlines[r.Intn(len(deadlines))], Seq: seqs[r.Intn(len(seqs))]}
}

// 23.1: words of chance, of which most are such as the chapters tell apart, of all plans, references and keys.
func TestWordsOfChance(t *testing.T) {
	r := rand.New(rand.NewSource(23))
	again, kept, gone := 0, 0, 0
	for _, p := range allPlans() {
		for range 300 {
			j := job{p, anyRef(r), anyKey(r)}
			fast := j.settle()
			var l []uint64
			for range r.Intn(60) {
				want := same(t, fast, j, l)
				if want.over {
					break
				}
				some := choices(want.asked[len(want.asked)-1], want.what, j)
				found := some[r.Intn(len(some))]
				switch {
				case want.what == holding && r.Intn(4) > 0:
					found = 1
				case want.what == seeking && r.Intn(3) == 0:
					found = 0
				case r.Intn(20) == 0:
					found = anyRef(r)
				}
				fast.Tell(found)
				l = append(l, found)
			}
			want := same(t, fast, j, l)
			again += want.again
			if want.over && want.waits {
				gone++
			} else if want.over {
				kept++
			}
		}
	}
	if again < 10000 || kept < 3000 || gone < 5000 {
		t.Errorf("the seek began anew %d times only, %d kept the slot, and %d retired it", again, kept, gone)
	}
}

// started is a job of two levels, and walked are the steps of it, with all kinds of deeds; gone is what it retires.
var (
	started = job{small, mine, key}
	walked  = []step{
		{less1(29, mine), 1},
		{read(8, 0), a}, {read(16, a), 0}, {read(10, a), 20}, {read(11, a), 30},
		{read(7, 0), minem},
		{read(8, 0), a}, {read(16, a), 0}, {read(10, a), 19},
		{read(15, a), mine}, {read(31, mine), bm}, {swap(15, mine, b, a), b},
		{read(8, 0), a}, {read(16, a), 1}, {swap(8, a, 0, 0), a},
		{read(7, 0), mine}, {read(31, mine), bm}, {swap(7, mine, b, 0), mine}, {read(23, b), 0}, {read(18, b), 20}, {read(19, b), 31},
		{epoch, 12},
	}
	gone = api.Retired{Ref: mine, Epoch: 12}
)

// 23.1: asking changes nothing, however often, be it Next or Retired: at each kind of step, and at the end.
func TestAskingChangesNothing(t *testing.T) {
	k := started.settle()
	for _, s := range walked {
		for range 300 {
			asks(t, k, s.asked)
		}
		k.Tell(s.found)
	}
	for range 100 {
		ended(t, k, gone, true)
	}
}

// 23.1: a task is told ahead of being asked, and goes on all the same.
func TestTellAheadOfNext(t *testing.T) {
	for n := range walked {
		k := started.settle()
		for _, s := range walked[:n] {
			k.Tell(s.found)
		}
		asks(t, k, walked[n].asked)
	}
	k := started.settle()
	for _, s := range walked {
		retires(t, k, api.Retired{}, false)
		k.Tell(s.found)
	}
	ended(t, k, gone, true)
	k = started.settle()
	k.Tell(2)
	k.Tell(1)
	ended(t, k, api.Retired{}, false)
}

// 23.1: nothing is retired ahead of the first Next, and behind each step but the last one.
func TestRetiredAhead(t *testing.T) {
	for n := range walked {
		k := started.settle()
		for _, s := range walked[:n] {
			k.Tell(s.found)
		}
		retires(t, k, api.Retired{}, false)
	}
	for _, p := range allPlans() {
		k := Settle(p, mine, key)
		retires(t, k, api.Retired{}, false)
		k.Tell(1)
		retires(t, k, api.Retired{}, false)
	}
}

// 23.1 and R7: a settler that is nil, or that no call made, is done, stays so, does nothing, and has retired nothing.
func TestTasksThatNoCallMade(t *testing.T) {
	var none *Settler
	for _, k := range []*Settler{none, {}, new(Settler)} {
		retires(t, k, api.Retired{}, false)
		ended(t, k, api.Retired{}, false)
		for _, w := range words {
			k.Tell(w)
			ended(t, k, api.Retired{}, false)
		}
		c := made(t, small)
		was := c.Words()
		if l := task.Play(c, k, 9); len(l) != 0 {
			t.Errorf("%v was found", l)
		}
		stands(t, c, was)
	}
}

// 23.1: each settler goes its own way, of the same job and of others.
func TestTasksAreApart(t *testing.T) {
	x, y, other := started.settle(), started.settle(), Settle(flat, bm, api.Key{Deadline: 1})
	for _, s := range walked {
		asks(t, x, s.asked)
		asks(t, y, less1(29, mine))
		asks(t, other, less1(19, bm))
		x.Tell(s.found)
	}
	for _, s := range walked[:15] {
		asks(t, y, s.asked)
		y.Tell(s.found)
	}
	goes(t, other, []step{{less1(19, bm), 1}, {read(7, 0), 0}, {epoch, 13}})
	goes(t, y, []step{{read(7, 0), 0}, {epoch, 14}})
	ended(t, y, api.Retired{Ref: mine, Epoch: 14}, true)
	ended(t, other, api.Retired{Ref: bm, Epoch: 13}, true)
	ended(t, x, gone, true)
}

// 23.1 and R4: what was told as retired is the asker's own.
func TestRetiredIsNew(t *testing.T) {
	k := started.settle()
	for _, s := range walked {
		k.Tell(s.found)
	}
	r, _ := k.Retired()
	r.Ref, r.Epoch = 1, 2
	ended(t, k, gone, true)
}

// 23.1: where there is no memory each deed finds 0, so nobody is the last one.
func TestNoMemory(t *testing.T) {
	for _, c := range []*cells.Cells{nil, new(cells.Cells)} {
		for _, p := range allPlans() {
			k := Settle(p, mine, key)
			if l := task.Play(c, k, 99); !slices.Equal(l, []uint64{0}) {
				t.Fatalf("%v was found of no memory", l)
			}
			ended(t, k, api.Retired{}, false)
			// Told that it is the last one, it seeks as many levels as the plan has.
			k = Settle(p, mine, key)
			k.Tell(1)
			if p.Levels > 1000 {
				if l := task.Play(c, k, 2000); len(l) != 2000 {
					t.Fatalf("Settle of %+v is done behind %d steps", p, len(l))
				}
				asks(t, k, read(nextAt(p, 0, p.Levels-2001), 0))
				continue
			}
			if l := task.Play(c, k, 2000); !slices.Equal(l, row(max(p.Levels, 0)+1, 0)) {
				t.Fatalf("%v was found of no memory", l)
			}
			ended(t, k, api.Retired{Ref: mine}, true)
		}
	}
}

// 23.1: of more levels than there may be it seeks as many as the plan says.
func TestMoreLevelsThanThereMayBe(t *testing.T) {
	for _, levels := range []int{9, 64, 1000, 70000} {
		p := api.Plan{Threads: 1, Slots: 3, Levels: levels}
		k := Settle(p, mine, key)
		k.Tell(1)
		for h := levels - 1; h >= 0; h-- {
			r := ref(uint64(h), 1)
			for _, s := range []step{{read(nextAt(p, 0, h), 0), r}, {read(nextAt(p, 1, h), r), 0}, {read(deadAt(p, 1), r), 21}} {
				if d, more := k.Next(); !more || d != s.asked {
					t.Fatalf("%+v is asked for (%v) at the level %d", d, more, h)
				}
				k.Tell(s.found)
			}
		}
		goes(t, k, []step{{epoch, 2}})
		ended(t, k, api.Retired{Ref: mine, Epoch: 2}, true)
	}
}

// 23.1: of plans that are not right, and of memories of any words, the words that there are turn as the steps say, wherever the sums put them.
func TestAnyMemory(t *testing.T) {
	r := rand.New(rand.NewSource(231))
	low := func() uint64 { return ref(uint64(r.Intn(2)), r.Intn(6)) + uint64(r.Intn(8)/7) }
	last := 0
	for _, p := range allPlans() {
		for range 40 {
			l := make([]uint64, r.Intn(120))
			for at := range l {
				l[at] = low()
				if r.Intn(9) == 0 {
					l[at] = words[r.Intn(len(words))]
				}
			}
			j := job{plan: p, ref: low(), key: api.Key{Deadline: r.Intn(10), Seq: uint64(r.Intn(10))}}
			if hold := holdAt(p, indexOf(j.ref)); hold >= 0 && hold < len(l) && r.Intn(4) > 0 {
				l[hold] = 1
				last++
			}
			c, fast := memory(t, l), j.settle()
			found, over := j.played(l, 60)
			if got := task.Play(c, fast, 60); !slices.Equal(got, found) {
				t.Fatalf("%v was found, not %v", got, found)
			}
			stands(t, c, l)
			if want := same(t, fast, j, found); want.over != over {
				t.Fatalf("over is %v", want.over)
			}
		}
	}
	if last < 500 {
		t.Errorf("%d were the last one only", last)
	}
}

// member is a slot that is in chains: its reference, its key, whether it is in the chain of a level, and whether it is going out of it.
type member struct {
	ref     uint64
	key     api.Key
	in, out [api.MaxLevels]bool
}

// sorted sorts members by their keys, of which none is there twice.
func sorted(l []member) []member {
	slices.SortFunc(l, func(x, y member) int {
		if less(x.key, y.key) {
			return -1
		}
		return 1
	})
	return l
}

// at tells those of l, sorted, that are in the chain of a level.
func at(l []member, level int) []member {
	var in []member
	for _, m := range l {
		if m.in[level] {
			in = append(in, m)
		}
	}
	return in
}

// lay lays the chains of sorted members on the words of a plan, each way on of which the slot is going out of the chain with a mark.
func lay(stand []uint64, p api.Plan, l []member) {
	for _, m := range l {
		stand[deadAt(p, indexOf(m.ref))], stand[seqAt(p, indexOf(m.ref))] = word(m.key.Deadline), m.key.Seq
	}
	for h := range p.Levels {
		from, mark := 0, uint64(0)
		for _, m := range append(at(l, h), member{}) {
			stand[nextAt(p, from, h)] = m.ref + mark
			from, mark = indexOf(m.ref), 0
			if m.out[h] {
				mark = 1
			}
		}
	}
}

// walk tells those that stand in the chain of a level of a memory, from the head on, and which of them are there without a mark.
func walk(t *testing.T, stand []uint64, p api.Plan, level int) (all, staying []uint64) {
	t.Helper()
	w := stand[nextAt(p, 0, level)]
	for n := 0; w%half > 1; n++ {
		if n > p.Slots {
			t.Fatalf("the chain of the level %d does not end", level)
		}
		r := w - w%2
		w = stand[nextAt(p, indexOf(r), level)]
		all = append(all, r)
		if w%2 == 0 {
			staying = append(staying, r)
		}
	}
	return all, staying
}

// rises asks whether the chain of a level of a memory rises.
func rises(t *testing.T, stand []uint64, p api.Plan, level int) {
	t.Helper()
	all, _ := walk(t, stand, p, level)
	keyOf := func(r uint64) api.Key {
		return api.Key{Deadline: int(stand[deadAt(p, indexOf(r))]), Seq: stand[seqAt(p, indexOf(r))]}
	}
	for i := 1; i < len(all); i++ {
		if !less(keyOf(all[i-1]), keyOf(all[i])) {
			t.Fatalf("the chain %v of the level %d does not rise at the place %d", all, level, i)
		}
	}
}

// chance makes sorted members of chance of a plan, of all slots but one, of which in the mean one of so many is going out of chains.
func chance(r *rand.Rand, p api.Plan, but, outs int) []member {
	var l []member
	seen := map[api.Key]bool{}
	for slot := 1; slot <= p.Slots; slot++ {
		k := api.Key{Deadline: r.Intn(9) - 4, Seq: uint64(r.Intn(9))}
		if r.Intn(4) == 0 {
			k = api.Key{Deadline: deadlines[r.Intn(len(deadlines))], Seq: seqs[r.Intn(len(seqs))]}
		}
		if slot == but || seen[k] || r.Intn(8) == 0 {
			continue
		}
		seen[k] = true
		m := member{ref: ref([]uint64{0, 1, uint64(r.Uint32()), lastGen}[r.Intn(4)], slot), key: k}
		tall := 1 + r.Intn(p.Levels)
		stay := tall
		if r.Intn(outs) == 0 {
			stay = r.Intn(tall + 1)
		}
		for h := range tall {
			m.out[h] = h >= stay
			m.in[h] = h < stay || r.Intn(3) > 0
		}
		l = append(l, m)
	}
	return sorted(l)
}

// newKey makes a key that none of members has.
func newKey(r *rand.Rand, l []member) api.Key {
	for {
		k := api.Key{Deadline: r.Intn(9) - 4, Seq: uint64(r.Intn(20))}
		if r.Intn(4) == 0 {
			k = anyKey(r)
		}
		if !slices.ContainsFunc(l, func(m member) bool { return m.key == k }) {
			return k
		}
	}
}

// alone lets the last one that holds a timer let go of it, alone, where all of l, of which the timer is one, stand in chains, and where its ways on are marked, also those by which it is in no chain; and asks whether the slot is retired, and the timer is in no chain then, while all that are in one without a mark are so still.
func alone(t *testing.T, p api.Plan, own member, l []member, e uint64) {
	t.Helper()
	slot := indexOf(own.ref)
	stand := made(t, p).Words()
	lay(stand, p, l)
	stand[0], stand[holdAt(p, slot)] = e, 1
	for h := range p.Levels {
		stand[nextAt(p, slot, h)] |= 1
	}
	j := job{p, own.ref, own.key}
	c, fast := memory(t, stand), j.settle()
	got := task.Play(c, fast, 9000)
	ended(t, fast, api.Retired{Ref: own.ref, Epoch: e}, true)
	now := c.Words()
	for h := range p.Levels {
		_, was := walk(t, stand, p, h)
		in, is := walk(t, now, p, h)
		if !slices.Equal(was, is) {
			t.Fatalf("%v are in the chain of the level %d, not %v", is, h, was)
		}
		if slices.Contains(in, own.ref) {
			t.Fatalf("%d is in the chain %v of the level %d still", own.ref, in, h)
		}
		rises(t, now, p, h)
	}
	found, over := j.played(stand, 9000)
	if !over || !slices.Equal(got, found) {
		t.Fatalf("%v was found, not %v", got, found)
	}
	stands(t, c, stand)
	if stand[holdAt(p, slot)] != 0 {
		t.Fatalf("%d hold it still", stand[holdAt(p, slot)])
	}
}

// 23.2: done alone by the last one, in all chains of three slots and two levels that the chapters tell apart (in each chain, not in it, going out of it), in all their orders, of each of the three: the timer is in no chain then.
func TestAloneInAllSmallChains(t *testing.T) {
	keys := []api.Key{{Deadline: -1, Seq: 9}, {Deadline: 4, Seq: 4}, {Deadline: 4, Seq: 8}}
	// Of two levels, from the lower one on: in the chain (1), going out of it (2), or not in it (0). Whoever stays in the higher one stays in the lower one too; the timer itself stays in none.
	ways := [][2]int{{0, 0}, {2, 0}, {0, 2}, {2, 2}, {1, 0}, {1, 2}, {1, 1}}
	for _, order := range [][]int{{1, 2, 3}, {1, 3, 2}, {2, 1, 3}, {2, 3, 1}, {3, 1, 2}, {3, 2, 1}} {
		for n := range 343 {
			l := make([]member, 3)
			some := []int{n / 49, n / 7 % 7, n % 7}
			for i, way := range some {
				l[i] = member{ref: ref(uint64(i)*lastGen/2, order[i]), key: keys[i]}
				for h, state := range ways[way] {
					l[i].in[h], l[i].out[h] = state != 0, state == 2
				}
			}
			for i, way := range some {
				if way < 4 {
					alone(t, small, l[i], l, words[n%len(words)])
				}
			}
		}
	}
}

// 23.2: done alone by the last one, in chains of chance of all right plans, with no other slot, with one and with many, with none beside it going out, with some, and with all: the timer, in all chains below its height, in some, or in none, is in none then.
func TestAloneInChainsOfChance(t *testing.T) {
	r := rand.New(rand.NewSource(232))
	for _, p := range rightPlans() {
		for _, outs := range []int{1, 2, 5, 1 << 30} {
			for range 12 {
				slot := 1 + r.Intn(p.Slots)
				l := chance(r, p, slot, outs)
				own := member{ref: ref([]uint64{0, 1, uint64(r.Uint32()), lastGen}[r.Intn(4)], slot), key: newKey(r, l)}
				not := r.Intn(4)
				for h := range 1 + r.Intn(p.Levels) {
					own.out[h], own.in[h] = true, not == 0 || r.Intn(not) == 0
				}
				alone(t, p, own, sorted(append(l, own)), words[r.Intn(len(words))])
			}
		}
	}
}

// 23.2: several who let go of one timer, one behind the other: each but the last one is done in one step, and retires nothing; the last one, and none behind it, retires the slot.
func TestOneBehindTheOther(t *testing.T) {
	for _, p := range rightPlans() {
		for holders := range uint64(5) {
			c, r := made(t, p), ref(p.Gen, p.Slots)
			c.Store(holdAt(p, p.Slots), holders)
			for n := range holders + 3 {
				c.Store(0, 40+n)
				k := Settle(p, r, key)
				found := task.Play(c, k, 99)
				if n+1 == holders {
					ended(t, k, api.Retired{Ref: r, Epoch: 40 + n}, true)
					continue
				}
				ended(t, k, api.Retired{}, false)
				if !slices.Equal(found, []uint64{holders - n}) {
					t.Fatalf("%v was found by the one behind %d, of %d", found, n, holders)
				}
			}
		}
	}
}

// worker is a settler under way: its job, and what it was told.
type worker struct {
	fast *Settler
	job  job
	told []uint64
}

// step lets the settler do one step, held against what stands by the chapter's sentences, and tells what it has come to.
func (g *worker) step(t *testing.T, c *cells.Cells) tale {
	t.Helper()
	want := same(t, g.fast, g.job, g.told)
	if want.over {
		return want
	}
	stand := c.Words()
	found := slow(stand, want.asked[len(want.asked)-1])
	if got := task.Play(c, g.fast, 1); len(got) != 1 || got[0] != found {
		t.Fatalf("%v was found at one step, not %d", got, found)
	}
	stands(t, c, stand)
	g.told = append(g.told, found)
	return same(t, g.fast, g.job, g.told)
}

// 23.2: two who let go of one timer, and somebody who passes, in all orders of their first steps: just the one that finds 1, which is the one behind, retires the slot, in the epoch that it found at its end; the timer is in no chain from then on.
func TestTwoInAllOrders(t *testing.T) {
	again, first := 0, 0
	l := []member{{ref: a, key: api.Key{Deadline: 10}}, {ref: mine, key: key}, {ref: b, key: api.Key{Deadline: 20, Seq: 31}}}
	for i := range l {
		l[i].in[0], l[i].in[1] = true, true
		l[i].out[0], l[i].out[1] = i == 1, i == 1
	}
	stand := made(t, small).Words()
	lay(stand, small, l)
	stand[29] = 2
	orders := 1
	for range 9 {
		orders *= 3
	}
	for order := range orders {
		c, other := memory(t, stand), seek.Seek(small, api.Key{Deadline: 30})
		j := job{small, mine, key}
		now := []*worker{{fast: j.settle(), job: j}, {fast: j.settle(), job: j}}
		var done [2]tale
		left := order
		for n := 0; n < 9 || !done[0].over || !done[1].over; n++ {
			c.Store(0, uint64(n))
			who := left % 3
			left /= 3
			if n >= 9 {
				who = n % 2
			}
			if who == 2 {
				task.Play(c, other, 1)
				continue
			}
			was := done[who].waits
			done[who] = now[who].step(t, c)
			if done[who].waits && !was && done[who].retired.Epoch != uint64(n) {
				t.Fatalf("%+v is retired in the epoch %d", done[who].retired, n)
			}
			for h := range small.Levels {
				if in, _ := walk(t, c.Words(), small, h); done[who].waits && !slices.Equal(in, []uint64{a, b}) {
					t.Fatalf("%v are in the chain of the level %d, in the order %d", in, h, order)
				}
			}
		}
		if done[0].waits == done[1].waits || done[0].waits != (now[0].told[0] == 1) || done[1].waits != (now[1].told[0] == 1) {
			t.Fatalf("both retire it, or none does: %+v in the order %d", done, order)
		}
		again += done[0].again + done[1].again
		if done[0].waits {
			first++
		}
	}
	if again < 100 || first < 1000 || first > orders-1000 {
		t.Errorf("the seek began anew %d times only, and the first one retired it %d times", again, first)
	}
}

// life is a timer's: who started it brings it into the chains and lets go of it, and who takes it marks its ways on and lets go of it.
type life struct {
	job     job
	tall    int
	linked  bool // whether it is in the lowest chain
	holders []*holder
	retired int // how often it was
}

// holder is one who holds a timer, and goes from task to task.
type holder struct {
	life *life
	flow task.Flow
	last *worker // as soon as it lets go
}

// settle lets the holder let go.
func (g *holder) settle() {
	j := g.life.job
	g.last = &worker{fast: j.settle(), job: j}
	g.flow.To(g.last.fast, nil)
}

// start makes a timer in a slot, and lets it be brought into the chains.
func start(c *cells.Cells, r *rand.Rand, p api.Plan, slot int) *life {
	tall := 1 + r.Intn(p.Levels)
	m := mint.Mint(p, slot, r.Intn(9), tall)
	task.Play(c, m, 99)
	one := &life{job: job{p, m.Ref(), m.Key()}, tall: tall}
	g := &holder{life: one}
	k := link.Link(p, m.Ref(), m.Key(), tall)
	g.flow.To(k, func() {
		one.linked = true
		g.flow.To(lift.Lift(p, m.Ref(), m.Key(), tall, k.Preds(), k.Succs()), g.settle)
	})
	one.holders = append(one.holders, g)
	return one
}

// take lets somebody take a timer.
func (one *life) take() {
	g := &holder{life: one}
	g.flow.To(mark.Mark(one.job.plan, one.job.ref, one.tall), g.settle)
	one.holders = append(one.holders, g)
}

// step lets the holder do one step, and tells whether it is done.
func (g *holder) step(t *testing.T, c *cells.Cells) bool {
	t.Helper()
	if g.last == nil {
		task.Play(c, &g.flow, 1)
		return false
	}
	now := g.last.step(t, c)
	if now.waits {
		g.life.retired++
	}
	return now.over
}

// without asks whether the timers of references are in no chain.
func without(t *testing.T, stand []uint64, p api.Plan, out map[uint64]bool) {
	t.Helper()
	for h := range p.Levels {
		in, _ := walk(t, stand, p, h)
		for _, r := range in {
			if out[r] {
				t.Fatalf("%d is in the chain %v of the level %d", r, in, h)
			}
		}
	}
}

// 23.2: timers that are started, and of which each other one is taken as soon as it is in the lowest chain, all by turns: each slot that both have let go of is retired once, by the last one, and its timer is in no chain from then on; of each other one the hold is 1, and it is in all chains below its height.
func TestInTurns(t *testing.T) {
	r := rand.New(rand.NewSource(233))
	starters, takers, again := 0, 0, 0
	for _, p := range rightPlans() {
		for range 4 {
			c, out := made(t, p), map[uint64]bool{}
			var all []*life
			var now []*holder
			for len(all) < p.Slots || len(now) > 0 {
				if len(all) < p.Slots && r.Intn(10) == 0 {
					one := start(c, r, p, len(all)+1)
					all, now = append(all, one), append(now, one.holders...)
				}
				if len(now) == 0 {
					continue
				}
				if r.Intn(30) == 0 {
					task.Play(c, seek.Seek(p, all[r.Intn(len(all))].job.key), r.Intn(200))
				}
				i := r.Intn(len(now))
				g := now[i]
				over := g.step(t, c)
				if one := g.life; one.linked && len(one.holders) == 1 && indexOf(one.job.ref)%2 == 0 {
					one.take()
					now = append(now, one.holders[1])
				}
				if !over {
					continue
				}
				now = slices.Delete(now, i, i+1)
				again += g.last.job.tale(g.last.told).again
				if _, waits := g.last.fast.Retired(); waits {
					out[g.life.job.ref] = true
					without(t, c.Words(), p, out)
					if g == g.life.holders[0] {
						starters++
					} else {
						takers++
					}
				}
			}
			without(t, c.Words(), p, out)
			stayed(t, c.Words(), p, all)
		}
	}
	if starters < 100 || takers < 100 || again < 10 {
		t.Errorf("%d starters and %d takers were the last ones, and the seek began anew %d times", starters, takers, again)
	}
}

// stayed asks whether of all timers those that were taken are retired once, and just the others are in the chains, without a mark, each in those below its height, and held by one.
func stayed(t *testing.T, stand []uint64, p api.Plan, all []*life) {
	t.Helper()
	for h := range p.Levels {
		want := 0
		in, staying := walk(t, stand, p, h)
		for _, one := range all {
			taken := len(one.holders) == 2
			if taken && one.retired != 1 || !taken && one.retired != 0 {
				t.Fatalf("%d is retired %d times", one.job.ref, one.retired)
			}
			if hold := stand[holdAt(p, indexOf(one.job.ref))]; taken && hold != 0 || !taken && hold != 1 {
				t.Fatalf("%d hold %d", hold, one.job.ref)
			}
			if here := !taken && h < one.tall; here {
				want++
				if !slices.Contains(staying, one.job.ref) {
					t.Fatalf("%d is not in the chain %v of the level %d", one.job.ref, in, h)
				}
			}
		}
		if len(in) != want {
			t.Fatalf("%v are in the chain of the level %d, not %d", in, h, want)
		}
		rises(t, stand, p, h)
	}
}
