package collect

import (
	"math"
	"math/bits"
	"math/rand"
	"slices"
	"testing"

	"sundial/api"
	"sundial/blank"
	"sundial/cells"
	"sundial/epoch"
	"sundial/limbo"
	"sundial/pin"
	"sundial/plan"
	"sundial/pool"
	"sundial/refer"
	"sundial/state"
	"sundial/task"
)

// half is how often a lower half goes into a word: a word is its high half times half, and its low half.
const half = 4294967296

// lastGen is the generation behind which a slot is gone, lastIndex the greatest index that a reference has, and lastEpoch the greatest word.
const (
	lastGen   = 4294967295
	lastIndex = 2147483647
	lastEpoch = 18446744073709551615
)

// gens are the edges of a generation.
var gens = []uint64{0, 1, 2, 3, 77, 1<<31 - 1, 1 << 31, lastGen - 2, lastGen - 1, lastGen}

// words are the edges of a word.
var words = []uint64{0, 1, 2, 3, 4, 5, 6, 64, 65, 1<<31 - 1, 1 << 31, half - 1, half, half + 1, half + 2, 1<<63 - 1, 1 << 63, 1<<63 + 1, lastEpoch - half + 1, lastEpoch - 4, lastEpoch - 3, lastEpoch - 2, lastEpoch - 1, lastEpoch}

// small is a plan of which the slots' words State are at 14, 24 and 34, and their words Succ at 19, 29 and 39.
var small = api.Plan{Threads: 2, Slots: 3, Levels: 4, Gen: 6}

// rightPlans are such of which each number is the least, one between, or the greatest.
func rightPlans() []api.Plan {
	var l []api.Plan
	for _, threads := range []int{1, 2, 8} {
		for _, slots := range []int{1, 2, 3, 63, 64} {
			for _, levels := range []int{1, 4, 8} {
				l = append(l, api.Plan{Threads: threads, Slots: slots, Levels: levels, Gen: gens[len(l)%len(gens)]})
			}
		}
	}
	return l
}

// wrongPlans are those of which one number alone is none that there is, such as no slot and more than the most, and those of which several are.
func wrongPlans() []api.Plan {
	l := []api.Plan{{}, {Threads: -1, Slots: -1, Levels: -1}, {Threads: 9, Slots: 65, Levels: 9, Gen: half}, {Threads: math.MaxInt, Slots: math.MaxInt, Levels: math.MaxInt, Gen: math.MaxUint64}, {Threads: math.MinInt, Slots: math.MinInt, Levels: math.MinInt}}
	for _, n := range []int{math.MinInt, math.MinInt + 1, -1<<32 + 2, -64, -1, 0, 65, 66, 1000, 1 << 31, 1<<32 + 2, math.MaxInt - 1, math.MaxInt} {
		l = append(l, api.Plan{Threads: n, Slots: 3, Levels: 4}, api.Plan{Threads: 2, Slots: n, Levels: 4}, api.Plan{Threads: 2, Slots: 3, Levels: n})
	}
	for _, gen := range []uint64{half, half + 1, 1 << 63, math.MaxUint64} {
		l = append(l, api.Plan{Threads: 2, Slots: 3, Levels: 4, Gen: gen})
	}
	return l
}

// allPlans are those that are right, and those that are not.
func allPlans() []api.Plan {
	return append(rightPlans(), wrongPlans()...)
}

// indices are the edges of a reference's index in a plan.
func indices(p api.Plan) []int {
	l := []int{0, 1, 2, 63, 64, 65, 1 << 30, lastIndex - 1, lastIndex}
	for _, n := range []int{p.Slots / 2, p.Slots - 1, p.Slots, p.Slots + 1} {
		if n >= 0 && n <= lastIndex {
			l = append(l, n)
		}
	}
	return l
}

// ref puts a reference together.
func ref(gen uint64, index int, mark uint64) uint64 {
	return gen*half + 2*uint64(index) + mark
}

// refs are the references of all edges of a plan, with and without the mark, and words that are some too.
func refs(p api.Plan) []uint64 {
	l := slices.Clone(words)
	for _, gen := range gens {
		for _, index := range indices(p) {
			l = append(l, ref(gen, index, 0), ref(gen, index, 1))
		}
	}
	return l
}

// stateAt and succAt tell where the words State and Succ of a slot stand, by chapter 8's sums.
func stateAt(p api.Plan, slot int) int {
	return 4 + 3*p.Threads + p.Levels + (slot-1)*(6+p.Levels)
}
func succAt(p api.Plan, slot int) int { return stateAt(p, slot) + 5 }

// Deeds by their kinds, for short.
func load(at int) api.Deed            { return api.Deed{Kind: 1, At: at} }
func store(at int, w uint64) api.Deed { return api.Deed{Kind: 2, At: at, A: w} }
func swap(at int, old, w uint64) api.Deed {
	return api.Deed{Kind: 3, At: at, A: old, B: w}
}

// behind tells the state that comes behind one of the generation gen: free, of the next one, or gone.
func behind(gen uint64) uint64 {
	if gen == lastGen {
		return 18446744069414584324
	}
	return (gen + 1) * half
}

// turned tells the head that stands behind w when the slot top is on top.
func turned(w uint64, top int) uint64 {
	return (w/half+1)%half*half + uint64(top)
}

// filled makes a limbo of these slots.
func filled(slots ...api.Retired) *limbo.Limbo {
	l := limbo.New()
	for _, r := range slots {
		l.Add(r.Ref, r.Epoch)
	}
	return l
}

// of makes slots of epochs: the first one is the slot 1 of the generation 0, then come the slots 2, 3 and so on.
func of(epochs ...uint64) []api.Retired {
	var l []api.Retired
	for i, e := range epochs {
		l = append(l, api.Retired{Ref: 2 * uint64(i+1), Epoch: e})
	}
	return l
}

// waited tells whether the epoch c is e + 2 or more: one whose sum goes round has no such epoch.
func waited(e, c uint64) bool {
	sum, round := bits.Add64(e, 2, 0)
	return round == 0 && c >= sum
}

// part tells by chapter 15's sentences which of slots, told in the order in which they were added, are ripe in the epoch c, and which stay, each list by list.
func part(slots []api.Retired, c uint64) (ripe, stay []api.Retired) {
	for list := uint64(0); list < 3; list++ {
		for _, r := range slots {
			switch {
			case r.Epoch%3 != list:
			case waited(r.Epoch, c):
				ripe = append(ripe, r)
			default:
				stay = append(stay, r)
			}
		}
	}
	return ripe, stay
}

// giveOf tells by chapters 16 and 12 what Give asks for, one deed behind the other, when it is told l, how many words of l it is told, and whether it is done behind that.
func giveOf(p api.Plan, ref uint64, l []uint64) (asked []api.Deed, told int, over bool) {
	gen, slot := ref/half, int(ref%half/2)
	asked = append(asked, store(stateAt(p, slot), behind(gen)))
	if len(l) == 0 {
		return asked, 0, false
	}
	if gen == lastGen {
		return asked, 1, true
	}
	for told = 1; ; told += 3 {
		asked = append(asked, load(3))
		if told == len(l) {
			return asked, told, false
		}
		w := l[told]
		asked = append(asked, store(succAt(p, slot), w%half))
		if told+1 == len(l) {
			return asked, told + 1, false
		}
		asked = append(asked, swap(3, w, turned(w, slot)))
		if told+2 == len(l) {
			return asked, told + 2, false
		}
		if l[told+2] == w {
			return asked, told + 3, true
		}
	}
}

// tale is what a Collect comes to by the chapter's sentences.
type tale struct {
	asked []api.Deed    // one behind the other; the last one is asked for still, if it is not over
	over  bool          // whether it is done
	count int           // what Count tells
	stay  []api.Retired // what is in the limbo
}

// collectOf tells by the chapter's sentences what Collect of p and a limbo of these slots comes to, when it is told l.
func collectOf(p api.Plan, slots []api.Retired, l []uint64) tale {
	out := tale{asked: []api.Deed{load(0)}}
	if len(l) == 0 {
		_, out.stay = part(slots, 0)
		return out
	}
	var ripe []api.Retired
	ripe, out.stay = part(slots, l[0])
	out.count = len(ripe)
	l = l[1:]
	for _, r := range ripe {
		asked, told, over := giveOf(p, r.Ref, l)
		out.asked = append(out.asked, asked...)
		if !over {
			return out
		}
		l = l[told:]
	}
	out.over = true
	return out
}

// slow does a deed of chapter 7 to words, and tells what was found.
func slow(stand []uint64, d api.Deed) uint64 {
	if d.At < 0 || d.At >= len(stand) {
		return 0
	}
	was := stand[d.At]
	switch {
	case d.Kind == 2:
		stand[d.At] = d.A
	case d.Kind == 3 && was == d.A:
		stand[d.At] = d.B
	}
	return was
}

// counts asks whether a collector counts n, again and again.
func counts(t *testing.T, k *Collector, n int) {
	t.Helper()
	for range 2 {
		if got := k.Count(); got != n {
			t.Fatalf("%d are counted, not %d", got, n)
		}
	}
}

// asks asks whether a collector asks for d, and counts n, again and again.
func asks(t *testing.T, k *Collector, n int, d api.Deed) {
	t.Helper()
	for range 3 {
		if got, more := k.Next(); got != d || !more {
			t.Fatalf("%+v is asked for (%v), not %+v", got, more, d)
		}
		counts(t, k, n)
	}
}

// ended asks whether a collector is done, counts n, and stays so whatever it is told.
func ended(t *testing.T, k *Collector, n int) {
	t.Helper()
	for _, found := range []uint64{0, 1, 7, half + 1, math.MaxUint64, 0, 0} {
		if got, more := k.Next(); got != (api.Deed{}) || more {
			t.Fatalf("%+v is asked for (%v) by a task that is done", got, more)
		}
		counts(t, k, n)
		k.Tell(found)
	}
	if got, more := k.Next(); got != (api.Deed{}) || more {
		t.Fatalf("a task that is done went on to %+v (%v)", got, more)
	}
	counts(t, k, n)
}

// holds asks whether a limbo has just these slots, in this order.
func holds(t *testing.T, l *limbo.Limbo, want ...api.Retired) {
	t.Helper()
	if got := l.All(); !slices.Equal(got, want) || l.Len() != len(want) {
		t.Fatalf("%v wait (%d), not %v", got, l.Len(), want)
	}
}

// step is a deed that is asked for, and what is told then.
type step struct {
	asked api.Deed
	found uint64
}

// gives are the steps in which a slot is given back at the first try, the head being w.
func gives(p api.Plan, r, w uint64) []step {
	gen, slot := r/half, int(r%half/2)
	first := step{store(stateAt(p, slot), behind(gen)), w ^ 5}
	if gen == lastGen {
		return []step{first}
	}
	return []step{first, {load(3), w}, {store(succAt(p, slot), w%half), w ^ 9}, {swap(3, w, turned(w, slot)), w}}
}

// collects asks whether Collect of p and a limbo asks for the deeds of l, takes the ripe ones, which are n, out of the limbo behind the first one, and is done then.
func collects(t *testing.T, p api.Plan, waits *limbo.Limbo, n int, l ...step) {
	t.Helper()
	k := Collect(p, waits)
	before, stay := waits.All(), waits.Copy()
	ripe := stay.Ripe(l[0].found)
	if len(ripe) != n {
		t.Fatalf("%v are ripe, not %d", ripe, n)
	}
	for i, s := range l {
		if i == 0 {
			asks(t, k, 0, s.asked)
			holds(t, waits, before...)
		} else {
			asks(t, k, n, s.asked)
			if waits.Len() != stay.Len() {
				t.Fatalf("%d wait at the step %d, not %d", waits.Len(), i, stay.Len())
			}
		}
		k.Tell(s.found)
	}
	ended(t, k, n)
	holds(t, waits, stay.All()...)
}

// collectsAs asks whether Collect, told the words of l as long as it asks for deeds, does what the chapters' sentences say.
func collectsAs(t *testing.T, p api.Plan, slots []api.Retired, l []uint64) {
	t.Helper()
	waits := filled(slots...)
	k := Collect(p, waits)
	for n := range len(l) + 1 {
		want := collectOf(p, slots, l[:n])
		got, more := k.Next()
		if more == want.over || want.over && got != (api.Deed{}) || more && got != want.asked[len(want.asked)-1] {
			t.Fatalf("Collect of %+v and %v, told %v, asks for %+v (%v), not as %+v", p, slots, l[:n], got, more, want)
		}
		counts(t, k, want.count)
		holds(t, waits, want.stay...)
		if n < len(l) {
			k.Tell(l[n])
		}
	}
}

// made makes the memory at the beginning of a right plan.
func made(t *testing.T, p api.Plan) *cells.Cells {
	t.Helper()
	c, err := blank.Make(p)
	if err != api.OK {
		t.Fatalf("no memory of %+v: %d", p, err)
	}
	return c
}

// stands asks whether a memory has just these words.
func stands(t *testing.T, c *cells.Cells, l []uint64) {
	t.Helper()
	if got := c.Words(); !slices.Equal(got, l) {
		t.Fatalf("%v stand, not %v", got, l)
	}
}

// take takes the top slot, alone; 0, if there is none.
func take(c *cells.Cells, p api.Plan) int {
	k := pool.Pop(p)
	task.Play(c, k, 99)
	return k.Index()
}

// alone does a Collect alone to a right plan's memory, and asks whether it finds what its steps say, is done, turned just the words that it shall, and of the slots those are free then that were retired two epochs ago or more, on top of those that were, but for such as are gone.
func alone(t *testing.T, c *cells.Cells, p api.Plan, slots []api.Retired) {
	t.Helper()
	stand, free := c.Words(), blank.Free(c, p)
	ripe, stay := part(slots, stand[0])
	found := []uint64{stand[0]}
	for _, r := range ripe {
		gen, slot := r.Ref/half, int(r.Ref%half/2)
		found = append(found, stand[stateAt(p, slot)])
		stand[stateAt(p, slot)] = behind(gen)
		if gen != lastGen {
			found = append(found, stand[3], stand[succAt(p, slot)], stand[3])
			stand[succAt(p, slot)], stand[3] = stand[3]%half, turned(stand[3], slot)
			free = append([]int{slot}, free...)
		}
	}
	waits := filled(slots...)
	k := Collect(p, waits)
	if got := task.Play(c, k, 9999); !slices.Equal(got, found) {
		t.Fatalf("Collect of %+v and %v found %v, not %v", p, slots, got, found)
	}
	ended(t, k, len(ripe))
	stands(t, c, stand)
	holds(t, waits, stay...)
	if got := blank.Free(c, p); !slices.Equal(got, free) {
		t.Fatalf("of %+v and %v %v are free, not %v", p, slots, got, free)
	}
}

// 17.1: the chapter's example: one load, and four steps for each of two, in numbers, and done alone.
func TestExample(t *testing.T) {
	p := api.Plan{Threads: 1, Slots: 3, Levels: 1}
	slots := []api.Retired{{Ref: refer.Of(0, 1), Epoch: 4}, {Ref: refer.Of(0, 2), Epoch: 5}, {Ref: refer.Of(0, 3), Epoch: 4}}
	collects(t, p, filled(slots...), 2,
		step{load(0), 6},
		step{store(8, 4294967296), 2}, step{load(3), 12884901888}, step{store(13, 0), 2}, step{swap(3, 12884901888, 17179869185), 12884901888},
		step{store(22, 4294967296), 2}, step{load(3), 17179869185}, step{store(27, 1), 0}, step{swap(3, 17179869185, 21474836483), 17179869185})
	c := made(t, p)
	for range 3 {
		take(c, p)
	}
	c.Store(api.AtEpoch, 6)
	waits := filled(slots...)
	k := Collect(p, waits)
	if l := task.Play(c, k, 99); !slices.Equal(l, []uint64{6, 0, 3 * half, 2, 3 * half, 0, 4*half + 1, 0, 4*half + 1}) || k.Count() != 2 {
		t.Fatalf("%v was found, and %d are counted", l, k.Count())
	}
	holds(t, waits, slots[1])
	if l := blank.Free(c, p); !slices.Equal(l, []int{3, 1}) {
		t.Fatalf("%v are free", l)
	}
}

// 17.1: each deed in the names of api's and of the lower layers.
func TestDeedsByName(t *testing.T) {
	for _, p := range rightPlans() {
		waits := filled(api.Retired{Ref: refer.Of(5, p.Slots), Epoch: 3}, api.Retired{Ref: refer.Mark(refer.Of(api.MaxGen, 1)), Epoch: 1})
		k := Collect(p, waits)
		asks(t, k, 0, api.Deed{Kind: api.Load, At: api.AtEpoch})
		k.Tell(5)
		asks(t, k, 2, api.Deed{Kind: api.Store, At: plan.State(p, p.Slots), A: state.Of(6, api.Free)})
		k.Tell(state.Of(5, api.Taken))
		asks(t, k, 2, api.Deed{Kind: api.Load, At: api.AtFree})
		k.Tell(7*half + 9)
		asks(t, k, 2, api.Deed{Kind: api.Store, At: plan.Succ(p, p.Slots), A: 9})
		k.Tell(0)
		asks(t, k, 2, api.Deed{Kind: api.Swap, At: api.AtFree, A: 7*half + 9, B: 8*half + uint64(p.Slots)})
		k.Tell(7*half + 9)
		asks(t, k, 2, api.Deed{Kind: api.Store, At: plan.State(p, 1), A: state.Of(api.MaxGen, api.Gone)})
		k.Tell(0)
		ended(t, k, 2)
	}
}

// 17.1: in numbers, of the generations 0, MaxGen - 1 and MaxGen, with and without the mark, of the index 0, of the last slot, and of one behind that.
func TestInNumbers(t *testing.T) {
	one := func(ref uint64) *limbo.Limbo { return filled(api.Retired{Ref: ref, Epoch: 1}) }
	first := step{load(0), 3}
	collects(t, small, one(2), 1, first, step{store(14, 4294967296), 2}, step{load(3), 0}, step{store(19, 0), 7}, step{swap(3, 0, 4294967297), 0})
	collects(t, small, one(3), 1, first, step{store(14, 4294967296), 2}, step{load(3), 2}, step{store(19, 2), 7}, step{swap(3, 2, 4294967297), 2})
	collects(t, small, one(4294967303), 1, first, step{store(34, 8589934592), 2}, step{load(3), 4294967297}, step{store(39, 1), 7}, step{swap(3, 4294967297, 8589934595), 4294967297})
	collects(t, small, one(18446744065119617030), 1, first, step{store(34, 18446744069414584320), 2}, step{load(3), 18446744069414584321}, step{store(39, 1), 7}, step{swap(3, 18446744069414584321, 3), 18446744069414584321})
	collects(t, small, one(18446744069414584322), 1, first, step{store(14, 18446744069414584324), 2})
	collects(t, small, one(18446744069414584325), 1, first, step{store(24, 18446744069414584324), 2})
	collects(t, small, one(8), 1, first, step{store(44, 4294967296), 0}, step{load(3), 1}, step{store(49, 1), 0}, step{swap(3, 1, 4294967300), 1})
	collects(t, small, one(0), 1, first, step{store(4, 4294967296), 0}, step{load(3), 1}, step{store(9, 1), 0}, step{swap(3, 1, 4294967296), 1})
	collects(t, small, one(1), 1, first, step{store(4, 4294967296), 0}, step{load(3), 1}, step{store(9, 1), 0}, step{swap(3, 1, 4294967296), 1})
	collects(t, small, one(18446744073709551615), 1, first, step{store(21474836474, 18446744069414584324), 0})
	collects(t, api.Plan{}, one(0), 1, first, step{store(-2, 4294967296), 0}, step{load(3), 1}, step{store(3, 1), 1}, step{swap(3, 1, 4294967296), 1})
	collects(t, api.Plan{Threads: 8, Slots: 64, Levels: 8}, one(128), 1, first, step{store(918, 4294967296), 1}, step{load(3), 63}, step{store(923, 63), 5}, step{swap(3, 63, 4294967360), 63})
	collects(t, small, filled(api.Retired{Ref: 18446744069414584322, Epoch: 1}, api.Retired{Ref: 18446744069414584327, Epoch: 1}, api.Retired{Ref: 4, Epoch: 1}, api.Retired{Ref: 18446744069414584328, Epoch: 4}), 3,
		first, step{store(14, 18446744069414584324), 2}, step{store(34, 18446744069414584324), 0},
		step{store(24, 4294967296), 9}, step{load(3), 1}, step{store(29, 1), 0}, step{swap(3, 1, 4294967298), 1})
}

// 17.1: where nothing is ripe it is done behind the load, whatever was found: of a limbo that is nil, that has no slot, that no call made, and of one whose slots are all of later epochs.
func TestNothingIsRipe(t *testing.T) {
	for _, p := range allPlans() {
		for _, w := range words {
			for _, waits := range []*limbo.Limbo{nil, limbo.New(), {}, filled(of(w, w-1)...), filled(of(lastEpoch, lastEpoch-1)...)} {
				if w == 0 && waits.Len() > 0 {
					continue
				}
				collects(t, p, waits, 0, step{load(0), w})
			}
		}
		collects(t, p, filled(of(0, 1, 2, lastEpoch)...), 0, step{load(0), 0})
		collects(t, p, filled(of(0, 1, 2, lastEpoch)...), 0, step{load(0), 1})
	}
}

// 17.1: one slot, of an epoch e, is given back in c just if that is e + 2 or more, of all edges and their neighbours.
func TestEpochs(t *testing.T) {
	for _, e := range words {
		for d := range uint64(8) {
			for _, c := range append(words, e-4+d) {
				slots := []api.Retired{{Ref: ref(4, 2, 0), Epoch: e}}
				l := []step{{load(0), c}}
				n := 0
				if waited(e, c) {
					l, n = append(l, gives(small, slots[0].Ref, 3*half+1)...), 1
				}
				collects(t, small, filled(slots...), n, l...)
			}
		}
	}
}

// 17.1: the slots are given back in the order in which Ripe tells them: list by list, each from its oldest one on; those that are not ripe stay.
func TestOrder(t *testing.T) {
	p := api.Plan{Threads: 1, Slots: 12, Levels: 1}
	for _, c := range []struct {
		epochs     []uint64
		epoch      uint64
		ripe, stay []int // of the slots, from 1 on
	}{
		{[]uint64{4}, 6, []int{1}, nil},
		{[]uint64{4}, 5, nil, []int{1}},
		{[]uint64{4}, 4, nil, []int{1}},
		{[]uint64{4}, 3, nil, []int{1}},
		{[]uint64{4}, 2, nil, []int{1}},
		{[]uint64{4}, 7, []int{1}, nil},
		{[]uint64{0}, 2, []int{1}, nil},
		{[]uint64{0}, 1, nil, []int{1}},
		{[]uint64{0}, 0, nil, []int{1}},
		{[]uint64{1}, 1, nil, []int{1}},
		{[]uint64{1}, 3, []int{1}, nil},
		{[]uint64{4, 4, 4, 4}, 6, []int{1, 2, 3, 4}, nil},
		{[]uint64{4, 4, 4, 4}, 5, nil, []int{1, 2, 3, 4}},
		{[]uint64{3, 4, 5}, 7, []int{1, 2, 3}, nil},
		{[]uint64{5, 4, 3}, 7, []int{3, 2, 1}, nil},
		{[]uint64{4, 5, 6}, 8, []int{3, 1, 2}, nil},
		{[]uint64{4, 5, 6}, 7, []int{1, 2}, []int{3}},
		{[]uint64{4, 5, 6}, 6, []int{1}, []int{3, 2}},
		{[]uint64{4, 5, 6}, 5, nil, []int{3, 1, 2}},
		{[]uint64{5, 4, 3, 4, 6}, 5, []int{3}, []int{5, 2, 4, 1}},
		{[]uint64{5, 4, 3, 4, 6}, 6, []int{3, 2, 4}, []int{5, 1}},
		{[]uint64{5, 4, 3, 4, 6}, 8, []int{3, 5, 2, 4, 1}, nil},
		{[]uint64{9, 3, 6, 0}, 6, []int{2, 4}, []int{1, 3}},
		{[]uint64{3, 9, 6, 3}, 10, []int{1, 3, 4}, []int{2}},
		{[]uint64{8, 7, 6, 5, 4, 3, 2, 1, 0}, 9, []int{3, 6, 9, 2, 5, 8, 4, 7}, []int{1}},
		{[]uint64{100, 7, 1 << 40, 1 << 63, 0}, 1 << 50, []int{5, 1, 2, 3}, []int{4}},
		{[]uint64{lastEpoch, lastEpoch - 1, lastEpoch - 2, lastEpoch - 3, 0, 1}, lastEpoch, []int{4, 5, 3, 6}, []int{1, 2}},
		{[]uint64{lastEpoch, lastEpoch - 1, lastEpoch - 2, lastEpoch - 3, 0, 1}, 2, []int{5}, []int{1, 4, 3, 6, 2}},
	} {
		waits := filled(of(c.epochs...)...)
		l := []step{{load(0), c.epoch}}
		for i, slot := range c.ripe {
			l = append(l, gives(p, 2*uint64(slot), uint64(i)*half+1)...)
		}
		collects(t, p, waits, len(c.ripe), l...)
		var stay []int
		for _, r := range waits.All() {
			stay = append(stay, int(r.Ref/2))
		}
		if !slices.Equal(stay, c.stay) {
			t.Fatalf("%v in %d: %v stay, not %v", c.epochs, c.epoch, stay, c.stay)
		}
	}
}

// 17.1: one slot that is there several times, of one reference or of two, is given back as often.
func TestTheSameSlotAgain(t *testing.T) {
	slots := []api.Retired{{Ref: 4, Epoch: 3}, {Ref: 4, Epoch: 3}, {Ref: 5, Epoch: 3}, {Ref: 4, Epoch: 4}, {Ref: half + 4, Epoch: 3}}
	l := []step{{load(0), 6}}
	for _, r := range []uint64{4, 4, 5, half + 4, 4} {
		l = append(l, gives(small, r, 8*half+3)...)
	}
	collects(t, small, filled(slots...), 5, l...)
}

// 17.1: of all plans, and of a limbo of the references of all edges, with just as many steps as the chapter says.
func TestAllEdges(t *testing.T) {
	for _, p := range allPlans() {
		var slots []api.Retired
		for i, r := range refs(p) {
			slots = append(slots, api.Retired{Ref: r, Epoch: words[i%len(words)]})
		}
		for _, c := range []uint64{0, 1, 2, 3, 7, half, 1 << 63, lastEpoch - 1, lastEpoch} {
			waits := filled(slots...)
			ripe, stay := part(slots, c)
			l := []step{{load(0), c}}
			for i, r := range ripe {
				l = append(l, gives(p, r.Ref, words[i%len(words)])...)
			}
			collects(t, p, waits, len(ripe), l...)
			holds(t, waits, stay...)
		}
	}
}

// 17.1: each reference of the edges is given back alone too, of all plans, at the third try.
func TestThirdTry(t *testing.T) {
	for _, p := range allPlans() {
		for i, r := range refs(p) {
			w, other := words[i%len(words)], words[(i+1)%len(words)]
			l := append([]step{{load(0), 9}}, gives(p, r, w)...)
			if r/half != lastGen {
				lost := slices.Clone(l[2:])
				lost[2].found = other
				l = slices.Concat(l[:2], lost, lost, l[2:])
			}
			collects(t, p, filled(api.Retired{Ref: r, Epoch: uint64(i % 8)}), 1, l...)
		}
	}
}

// 17.1: Count tells 0 ahead of the load's end, and how many were ripe behind it, at each step and when it is done.
func TestCount(t *testing.T) {
	for n := range 20 {
		epochs := make([]uint64, n)
		for i := range epochs {
			epochs[i] = uint64(i)
		}
		for c := range uint64(24) {
			k := Collect(small, filled(of(epochs...)...))
			ripe := max(0, min(n, int(c)-1))
			asks(t, k, 0, load(0))
			k.Tell(c)
			for steps := 0; ; steps++ {
				counts(t, k, ripe)
				if _, more := k.Next(); !more {
					if steps != 4*ripe {
						t.Fatalf("%d steps for %d", steps, ripe)
					}
					break
				}
				k.Tell(5)
			}
			ended(t, k, ripe)
		}
	}
}

// 17.1: what is ripe is taken out at the load's end: not ahead of it, so that what comes into the limbo till then is given back too, and what comes later is not.
func TestWhenTheLimboIsAsked(t *testing.T) {
	slots := of(4, 4, 4, 4, 4)
	waits := filled(slots[0])
	k := Collect(small, waits)
	for range 100 {
		asks(t, k, 0, load(0))
		holds(t, waits, slots[0])
	}
	waits.Add(slots[1].Ref, 4)
	asks(t, k, 0, load(0))
	waits.Ripe(5)
	waits.Add(slots[2].Ref, 5)
	k.Tell(6)
	counts(t, k, 2)
	holds(t, waits, api.Retired{Ref: 6, Epoch: 5})
	asks(t, k, 2, store(14, half))
	waits.Add(slots[3].Ref, 4)
	for range 4 {
		k.Tell(1)
	}
	asks(t, k, 2, store(24, half))
	waits.Add(slots[4].Ref, 0)
	for range 4 {
		k.Tell(1)
	}
	ended(t, k, 2)
	holds(t, waits, api.Retired{Ref: 10, Epoch: 0}, slots[3], api.Retired{Ref: 6, Epoch: 5})
}

// 17.1: what somebody else took out of the limbo ahead of the load's end is not given back; what was taken behind it is gone on with, whatever becomes of the limbo.
func TestLimboIsEmptied(t *testing.T) {
	waits := filled(of(4, 4)...)
	k := Collect(small, waits)
	waits.Ripe(9)
	k.Tell(9)
	ended(t, k, 0)
	waits = filled(of(4, 4, 5)...)
	k = Collect(small, waits)
	k.Tell(6)
	waits.Ripe(9)
	for _, slot := range []int{1, 2} {
		asks(t, k, 2, store(stateAt(small, slot), half))
		k.Tell(0)
		asks(t, k, 2, load(3))
		k.Tell(5)
		asks(t, k, 2, store(succAt(small, slot), 5))
		k.Tell(0)
		asks(t, k, 2, swap(3, 5, half+uint64(slot)))
		k.Tell(5)
	}
	ended(t, k, 2)
}

// 17.1: a copy of the limbo keeps what is taken out of it.
func TestCopiesOfTheLimbo(t *testing.T) {
	slots := of(4, 5, 4)
	waits := filled(slots...)
	other := waits.Copy()
	k := Collect(small, waits)
	again := waits.Copy()
	k.Tell(7)
	counts(t, k, 3)
	holds(t, waits)
	holds(t, other, slots[0], slots[2], slots[1])
	holds(t, again, slots[0], slots[2], slots[1])
	collects(t, small, other, 2, slices.Concat([]step{{load(0), 6}}, gives(small, 2, 3), gives(small, 6, 4))...)
}

// 17.1: limbos of very many slots.
func TestMany(t *testing.T) {
	waits := limbo.New()
	for i := range uint64(6000) {
		waits.Add(2*(i%3+1)+i%7*half, i/7)
	}
	before := waits.Copy()
	k := Collect(small, waits)
	k.Tell(502)
	ripe := before.Ripe(502)
	if len(ripe) != 3507 {
		t.Fatalf("%d are ripe", len(ripe))
	}
	for i, r := range ripe {
		for _, s := range gives(small, r.Ref, uint64(i)) {
			if d, more := k.Next(); d != s.asked || !more {
				t.Fatalf("%+v is asked for at %d, not %+v", d, i, s.asked)
			}
			k.Tell(s.found)
		}
	}
	ended(t, k, 3507)
	holds(t, waits, before.All()...)
}

// 17.1: the generation with which all slots of the plan begin doesn't count: the references' own do.
func TestPlansGeneration(t *testing.T) {
	for _, gen := range append(gens, half, math.MaxUint64) {
		p := small
		p.Gen = gen
		collects(t, p, filled(api.Retired{Ref: ref(6, 1, 0), Epoch: 4}, api.Retired{Ref: ref(lastGen, 2, 0), Epoch: 4}), 2,
			step{load(0), 6}, step{store(14, 7*half), 0}, step{load(3), 2}, step{store(19, 2), 0}, step{swap(3, 2, half+1), 2}, step{store(24, lastGen*half+4), 0})
	}
}

// 17.1: whatever the Store of the state and the Store of Succ find, the steps are the same.
func TestStoresFindWhatever(t *testing.T) {
	for _, a := range words {
		for _, b := range words {
			collects(t, small, filled(api.Retired{Ref: ref(8, 2, 1), Epoch: 4}, api.Retired{Ref: ref(lastGen, 3, 0), Epoch: 4}), 2,
				step{load(0), 6}, step{store(24, 9*half), a}, step{load(3), half + 3}, step{store(29, 3), b}, step{swap(3, half+3, 2*half+2), half + 3}, step{store(34, lastGen*half+4), b})
		}
	}
}

// 17.1: a Swap that finds another word gives nothing back: the same slot's load of the head comes next, again and again, and neither the epoch nor the limbo is asked once more.
func TestSwapFindsAnotherHeadAgainAndAgain(t *testing.T) {
	slots := of(4, 4, 5)
	waits := filled(slots...)
	k := Collect(small, waits)
	asks(t, k, 0, load(0))
	k.Tell(6)
	for slot := 1; slot <= 2; slot++ {
		asks(t, k, 2, store(stateAt(small, slot), half))
		k.Tell(7)
		for n := range uint64(3000) {
			w := n*half + n%4
			asks(t, k, 2, load(3))
			k.Tell(w)
			asks(t, k, 2, store(succAt(small, slot), n%4))
			k.Tell(n)
			asks(t, k, 2, swap(3, w, (n+1)*half+uint64(slot)))
			k.Tell(w + half)
			holds(t, waits, slots[2])
		}
		k.Tell(half)
		k.Tell(0)
		k.Tell(half)
	}
	ended(t, k, 2)
	holds(t, waits, slots[2])
}

// 17.1: whatever word is found at each of the first seven steps, it goes on as the chapters' sentences say.
func TestWhateverIsFound(t *testing.T) {
	edges := []uint64{0, 6, half + 1, math.MaxUint64}
	slots := []api.Retired{{Ref: ref(4, 3, 0), Epoch: 4}, {Ref: ref(lastGen, 1, 0), Epoch: 4}, {Ref: ref(0, 2, 1), Epoch: 5}, {Ref: ref(lastGen, 1, 1), Epoch: 3}, {Ref: ref(1, 1, 0), Epoch: lastEpoch}}
	l := make([]uint64, 7)
	var fill func(i int)
	fill = func(i int) {
		if i == len(l) {
			for n := range slots {
				collectsAs(t, small, slots[n:], l)
			}
			return
		}
		for _, w := range edges {
			l[i] = w
			fill(i + 1)
		}
	}
	fill(0)
}

// 17.1: words of chance, some of which make a Swap find what it asked for, of all plans, and of slots of the edges and of chance.
func TestWordsOfChance(t *testing.T) {
	r := rand.New(rand.NewSource(17))
	for _, p := range allPlans() {
		edges := refs(p)
		for range 300 {
			var slots []api.Retired
			for range r.Intn(7) {
				one := api.Retired{Ref: edges[r.Intn(len(edges))], Epoch: words[r.Intn(len(words))]}
				if r.Intn(3) == 0 {
					one = api.Retired{Ref: r.Uint64(), Epoch: r.Uint64()}
				}
				slots = append(slots, one)
			}
			l := make([]uint64, r.Intn(40))
			for i := range l {
				l[i] = words[r.Intn(len(words))]
				switch {
				case i > 2 && r.Intn(2) == 0:
					l[i] = l[i-2]
				case r.Intn(3) == 0:
					l[i] = r.Uint64()
				}
			}
			collectsAs(t, p, slots, l)
		}
	}
}

// 17.1: asking changes nothing, however often.
func TestNextChangesNothing(t *testing.T) {
	waits := filled(of(4, 4)...)
	k := Collect(small, waits)
	again := func(n int, d api.Deed) {
		t.Helper()
		for range 1000 {
			asks(t, k, n, d)
		}
	}
	again(0, load(0))
	k.Tell(7)
	for slot := 1; slot <= 2; slot++ {
		again(2, store(stateAt(small, slot), half))
		k.Tell(8*half + 3)
		again(2, load(3))
		k.Tell(half + 1)
		again(2, store(succAt(small, slot), 1))
		k.Tell(3)
		again(2, swap(3, half+1, 2*half+uint64(slot)))
		k.Tell(half + 1)
	}
	for range 100 {
		ended(t, k, 2)
	}
}

// 17.1: a task is told ahead of being asked, and goes on all the same.
func TestTellAheadOfNext(t *testing.T) {
	slots := []api.Retired{{Ref: ref(8, 2, 0), Epoch: 4}, {Ref: ref(lastGen, 1, 0), Epoch: 4}, {Ref: ref(0, 3, 0), Epoch: 5}}
	told := []uint64{7, 9, 4*half + 3, 77, 9, 5*half + 1, 78, 5*half + 1, 4, 5, 6, 7, 6}
	want := []api.Deed{load(0), store(24, 9*half), load(3), store(29, 3), swap(3, 4*half+3, 5*half+2), load(3), store(29, 1), swap(3, 5*half+1, 6*half+2), store(14, lastGen*half+4), store(34, half), load(3), store(39, 6), swap(3, 6, half+3)}
	for n := range told {
		waits := filled(slots...)
		k := Collect(small, waits)
		for _, found := range told[:n] {
			k.Tell(found)
		}
		counts(t, k, min(n, 1)*3)
		if n > 0 {
			holds(t, waits)
		}
		asks(t, k, min(n, 1)*3, want[n])
	}
	k := Collect(small, filled(slots...))
	for _, found := range told {
		k.Tell(found)
	}
	ended(t, k, 3)
	k = Collect(small, filled(slots...))
	k.Tell(5)
	ended(t, k, 0)
}

// 17.1 and R7: a collector that is nil, or that no call made, is done, stays so, counts 0, and does nothing.
func TestTasksThatNoCallMade(t *testing.T) {
	var none *Collector
	for _, k := range []*Collector{none, {}, new(Collector)} {
		ended(t, k, 0)
		for _, w := range words {
			k.Tell(w)
			ended(t, k, 0)
		}
		c := made(t, small)
		was := c.Words()
		if l := task.Play(c, k, 9); len(l) != 0 {
			t.Errorf("%v was found", l)
		}
		stands(t, c, was)
	}
}

// 17.1: each collector goes its own way, of the same plan and of others, each of a limbo of its own.
func TestTasksAreApart(t *testing.T) {
	p := api.Plan{Threads: 1, Slots: 3, Levels: 1}
	waits := [3]*limbo.Limbo{filled(of(4, 4)...), filled(of(4, 4)...), filled(of(5)...)}
	a, b, other := Collect(small, waits[0]), Collect(small, waits[1]), Collect(p, waits[2])
	a.Tell(6)
	asks(t, b, 0, load(0))
	holds(t, waits[1], of(4, 4)...)
	asks(t, other, 0, load(0))
	asks(t, a, 2, store(14, half))
	other.Tell(9)
	b.Tell(5)
	ended(t, b, 0)
	asks(t, other, 1, store(8, half))
	a.Tell(0)
	asks(t, a, 2, load(3))
	asks(t, other, 1, store(8, half))
	other.Tell(0)
	a.Tell(half + 1)
	other.Tell(2 * half)
	asks(t, a, 2, store(19, 1))
	asks(t, other, 1, store(13, 0))
	holds(t, waits[0])
	holds(t, waits[1], of(4, 4)...)
	holds(t, waits[2])
}

// 17.1: of two collectors of one limbo each slot is given back by one alone: by that whose load ends first, if it is ripe then.
func TestTwoOfOneLimbo(t *testing.T) {
	slots := of(4, 5, 4)
	waits := filled(slots...)
	a, b, late := Collect(small, waits), Collect(small, waits), Collect(small, waits)
	b.Tell(6)
	asks(t, a, 0, load(0))
	asks(t, b, 2, store(14, half))
	a.Tell(7)
	asks(t, a, 1, store(24, half))
	asks(t, b, 2, store(14, half))
	holds(t, waits)
	late.Tell(lastEpoch)
	ended(t, late, 0)
	for range 4 {
		a.Tell(0)
		b.Tell(0)
	}
	ended(t, a, 1)
	asks(t, b, 2, store(34, half))
}

// 17.2: done alone, of all right plans: one slot, of each edge of an epoch and of a generation, with and without the mark, in each epoch about it.
func TestAloneOne(t *testing.T) {
	for _, p := range rightPlans() {
		for i, e := range words {
			for d := range uint64(6) {
				c := made(t, p)
				slot := take(c, p)
				gen := gens[(i+int(d))%len(gens)]
				c.Store(stateAt(p, slot), gen*half+3)
				c.Store(0, e-2+d)
				alone(t, c, p, []api.Retired{{Ref: ref(gen, slot, uint64(i%2)), Epoch: e}})
			}
		}
	}
}

// 17.2: done alone, of all right plans: some of the slots taken, and retired in epochs of chance near one another, or far apart, of generations of the edges: those of two epochs ago or more are free, unless they are gone, and no others.
func TestAlone(t *testing.T) {
	r := rand.New(rand.NewSource(172))
	for _, p := range rightPlans() {
		for round := range 60 {
			c := made(t, p)
			var held []int
			for range r.Intn(p.Slots + 1) {
				held = append(held, take(c, p))
			}
			r.Shuffle(len(held), func(i, j int) { held[i], held[j] = held[j], held[i] })
			epoch := words[round%len(words)]
			c.Store(0, epoch)
			var slots []api.Retired
			for _, slot := range held[:r.Intn(len(held)+1)] {
				gen := gens[r.Intn(len(gens))]
				c.Store(stateAt(p, slot), gen*half+3)
				e := epoch - 4 + uint64(r.Intn(6))
				if r.Intn(4) == 0 {
					e = words[r.Intn(len(words))]
				}
				slots = append(slots, api.Retired{Ref: ref(gen, slot, uint64(r.Intn(2))), Epoch: e})
			}
			alone(t, c, p, slots)
		}
	}
}

// 17.2: all slots at once, of three epochs that follow each other, as they ripen from one epoch to the next.
func TestAloneAllAtOnce(t *testing.T) {
	for _, p := range rightPlans() {
		for epoch := uint64(4); epoch < 9; epoch++ {
			c := made(t, p)
			var slots []api.Retired
			for range p.Slots {
				slot := take(c, p)
				slots = append(slots, api.Retired{Ref: ref(p.Gen, slot, 0), Epoch: 4 + uint64(slot%3)})
			}
			c.Store(0, epoch)
			alone(t, c, p, slots)
		}
	}
}

// 17.2: alone, whatever words stand in the memory, what is stored are the states, and, unless the slot is gone, Succ and the head, and nothing else.
func TestAloneInWordsOfChance(t *testing.T) {
	r := rand.New(rand.NewSource(173))
	for _, p := range rightPlans() {
		for range 60 {
			l := made(t, p).Words()
			for at := range l {
				l[at] = words[r.Intn(len(words))]
				if r.Intn(2) == 0 {
					l[at] = r.Uint64()
				}
			}
			var slots []api.Retired
			for range r.Intn(6) {
				slots = append(slots, api.Retired{Ref: ref(gens[r.Intn(len(gens))], r.Intn(p.Slots+1), uint64(r.Intn(2))), Epoch: l[0] - 5 + uint64(r.Intn(7))})
			}
			c, err := cells.Of(l)
			if err != api.OK {
				t.Fatal(err)
			}
			var told []uint64
			want := collectOf(p, slots, told)
			for ; !want.over; want = collectOf(p, slots, told) {
				told = append(told, slow(l, want.asked[len(want.asked)-1]))
			}
			waits := filled(slots...)
			k := Collect(p, waits)
			if got := task.Play(c, k, 99); !slices.Equal(got, told) {
				t.Fatalf("%v was found, not %v", got, told)
			}
			ended(t, k, want.count)
			stands(t, c, l)
			holds(t, waits, want.stay...)
		}
	}
}

// 17.2: while the epoch goes on by the steps of chapter 14, a slot that is retired in it waits for it to go on twice, and no longer.
func TestWithEpochs(t *testing.T) {
	p := api.Plan{Threads: 2, Slots: 1, Levels: 1, Gen: lastGen - 3}
	c := made(t, p)
	waits := limbo.New()
	for gen := p.Gen; gen <= lastGen; gen++ {
		if take(c, p) != 1 {
			t.Fatalf("of the generation %d it is not free", gen)
		}
		inside := pin.Pin(p, 0)
		task.Play(c, inside, 9)
		waits.Add(ref(gen, 1, 0), inside.Epoch())
		for ago := range 3 {
			k := Collect(p, waits)
			l := task.Play(c, k, 99)
			if ago < 2 {
				if len(l) != 1 || k.Count() != 0 || len(blank.Free(c, p)) != 0 || waits.Len() != 1 {
					t.Fatalf("%v was found %d epochs behind", l, ago)
				}
				task.Play(c, pin.Pin(p, 0), 9)
				task.Play(c, epoch.Advance(p), 9)
				continue
			}
			if k.Count() != 1 || waits.Len() != 0 {
				t.Fatalf("%d are ripe two epochs behind", k.Count())
			}
		}
		task.Play(c, pin.Unpin(p, 0), 9)
		if gen < lastGen && c.Load(stateAt(p, 1)) != (gen+1)*half {
			t.Fatalf("the state is %s", state.Text(c.Load(stateAt(p, 1))))
		}
	}
	if take(c, p) != 0 || state.Text(c.Load(stateAt(p, 1))) != "4294967295 gone" {
		t.Fatalf("the state is %s at last", state.Text(c.Load(stateAt(p, 1))))
	}
}

// turn is a collector under way: its limbo's slots when it began, and what it was told.
type turn struct {
	fast  *Collector
	waits *limbo.Limbo
	slots []api.Retired
	told  []uint64
}

// step lets the collector do one step, held against what stands by the chapters' sentences, and tells whether it was the last one.
func (g *turn) step(t *testing.T, c *cells.Cells, p api.Plan, stand []uint64) bool {
	t.Helper()
	asked := collectOf(p, g.slots, g.told).asked
	found := slow(stand, asked[len(asked)-1])
	if l := task.Play(c, g.fast, 1); len(l) != 1 || l[0] != found {
		t.Fatalf("%v was found at one step, not %d", l, found)
	}
	stands(t, c, stand)
	g.told = append(g.told, found)
	want := collectOf(p, g.slots, g.told)
	if _, more := g.fast.Next(); more == want.over {
		t.Fatalf("told %v, more is %v", g.told, more)
	}
	counts(t, g.fast, want.count)
	holds(t, g.waits, want.stay...)
	return want.over
}

// 17.1: several threads that collect by turns, in ways of chance, each of its own limbo, while slots are taken and retired and the epoch goes on, against what stands by the chapters' sentences: no slot is lost, or free twice.
func TestInTurns(t *testing.T) {
	r := rand.New(rand.NewSource(171))
	given, again := 0, 0 // slots, and collectors of which a Swap found another head
	for _, p := range rightPlans() {
		p.Gen = lastGen - 3
		c := made(t, p)
		waits := make([]*limbo.Limbo, p.Threads)
		for i := range waits {
			waits[i] = limbo.New()
		}
		now := make([]*turn, p.Threads)
		ways := map[int]int{} // how often each slot was taken, and is not given back yet
		for range 900 {
			i := r.Intn(p.Threads)
			switch n := r.Intn(9); {
			case n == 0:
				c.Add(0, 1)
			case now[i] == nil && n < 6:
				if slot := take(c, p); slot != 0 {
					ways[slot]++
					waits[i].Add(c.Load(stateAt(p, slot))/half*half+2*uint64(slot), c.Load(0))
				}
			case now[i] == nil:
				now[i] = &turn{fast: Collect(p, waits[i]), waits: waits[i], slots: waits[i].All()}
			default:
				before := blank.Free(c, p)
				if now[i].step(t, c, p, c.Words()) {
					given += now[i].fast.Count()
					if len(now[i].told) > 1+4*now[i].fast.Count() {
						again++
					}
					now[i] = nil
				}
				if free := blank.Free(c, p); len(free) > len(before) {
					ways[free[0]]--
				}
			}
			for _, slot := range blank.Free(c, p) {
				if ways[slot] != 0 {
					t.Fatalf("of %+v the slot %d is free, and somebody's", p, slot)
				}
			}
			free := len(blank.Free(c, p))
			for _, n := range ways {
				if n != 0 && n != 1 {
					t.Fatalf("of %+v a slot is taken %d times", p, n)
				}
				free += n
			}
			if free != p.Slots {
				t.Fatalf("of %+v %d slots are there", p, free)
			}
		}
	}
	if given < 1000 || again < 100 {
		t.Errorf("%d slots were given back, and %d collectors found another head at a Swap only", given, again)
	}
}

// 17.1: of plans that are not right, and of references of no slot, the words that there are turn as the steps say, wherever the sums put them, and it ends.
func TestMemoryOfPlansThatAreNotRight(t *testing.T) {
	for _, p := range allPlans() {
		for i, r := range refs(p) {
			c, err := cells.New(60)
			if err != api.OK {
				t.Fatal(err)
			}
			for at := range c.Len() {
				c.Store(at, uint64(at)*(half+1)*uint64(i%3))
			}
			c.Store(0, 6)
			stand := c.Words()
			slots := []api.Retired{{Ref: r, Epoch: 3}, {Ref: r + 3, Epoch: 4}, {Ref: r, Epoch: 6}}
			waits := filled(slots...)
			g := &turn{fast: Collect(p, waits), waits: waits, slots: slots}
			for n := 0; !g.step(t, c, p, stand); n++ {
				if n == 20 {
					t.Fatalf("Collect of %+v and %v goes on behind %v", p, slots, g.told)
				}
			}
			ended(t, g.fast, 2)
		}
	}
}

// 17.1: where there is no memory the epoch is found to be 0: so nothing is ripe.
func TestNoMemory(t *testing.T) {
	for _, c := range []*cells.Cells{nil, new(cells.Cells)} {
		for _, p := range allPlans() {
			waits := filled(of(0, 1, lastEpoch)...)
			k := Collect(p, waits)
			if l := task.Play(c, k, 99); !slices.Equal(l, []uint64{0}) {
				t.Fatalf("%v was found of no memory", l)
			}
			ended(t, k, 0)
			if waits.Len() != 3 {
				t.Fatalf("%d wait", waits.Len())
			}
		}
	}
}
