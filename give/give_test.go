package give

import (
	"math"
	"math/rand"
	"slices"
	"testing"

	"sundial/api"
	"sundial/blank"
	"sundial/cells"
	"sundial/plan"
	"sundial/pool"
	"sundial/refer"
	"sundial/state"
	"sundial/task"
)

// half is how often a lower half goes into a word: a word is its high half times half, and its low half.
const half = 4294967296

// lastGen is the generation behind which a slot is gone, and lastIndex the greatest index that a reference has.
const (
	lastGen   = 4294967295
	lastIndex = 2147483647
)

// gens are the edges of a generation.
var gens = []uint64{0, 1, 2, 3, 77, 1<<31 - 1, 1 << 31, lastGen - 2, lastGen - 1, lastGen}

// words are the edges of a word.
var words = []uint64{0, 1, 2, 3, 4, 5, 64, 65, 1<<31 - 1, 1 << 31, half - 1, half, half + 1, half + 2, 1<<63 - 1, 1 << 63, 1<<63 + 1, math.MaxUint64 - half + 1, math.MaxUint64 - 1, math.MaxUint64}

// small is a plan of which the slots' words State are at 14, 24 and 34, and their words Succ at 19, 29 and 39.
var small = api.Plan{Threads: 2, Slots: 3, Levels: 4, Gen: 6}

// rightPlans are such of which each number is the least, one between, or the greatest.
func rightPlans() []api.Plan {
	var l []api.Plan
	for _, threads := range []int{1, 2, 8} {
		for _, slots := range []int{1, 2, 3, 63, 64} {
			for _, levels := range []int{1, 4, 8} {
				l = append(l, api.Plan{Threads: threads, Slots: slots, Levels: levels, Gen: gens[len(l)%len(gens)]})
			}
		}
	}
	return l
}

// wrongPlans are those of which one number alone is none that there is, such as no slot and more than the most, and those of which several are.
func wrongPlans() []api.Plan {
	l := []api.Plan{{}, {Threads: -1, Slots: -1, Levels: -1}, {Threads: 9, Slots: 65, Levels: 9, Gen: half}, {Threads: math.MaxInt, Slots: math.MaxInt, Levels: math.MaxInt, Gen: math.MaxUint64}, {Threads: math.MinInt, Slots: math.MinInt, Levels: math.MinInt}}
	for _, n := range []int{math.MinInt, math.MinInt + 1, -1<<32 + 2, -64, -1, 0, 65, 66, 1000, 1 << 31, 1<<32 + 2, math.MaxInt - 1, math.MaxInt} {
		l = append(l, api.Plan{Threads: n, Slots: 3, Levels: 4}, api.Plan{Threads: 2, Slots: n, Levels: 4}, api.Plan{Threads: 2, Slots: 3, Levels: n})
	}
	for _, gen := range []uint64{half, half + 1, 1 << 63, math.MaxUint64} {
		l = append(l, api.Plan{Threads: 2, Slots: 3, Levels: 4, Gen: gen})
	}
	return l
}

// allPlans are those that are right, and those that are not.
func allPlans() []api.Plan {
	return append(rightPlans(), wrongPlans()...)
}

// indices are the edges of a reference's index in a plan.
func indices(p api.Plan) []int {
	l := []int{0, 1, 2, 63, 64, 65, 1 << 30, lastIndex - 1, lastIndex}
	for _, n := range []int{p.Slots / 2, p.Slots - 1, p.Slots, p.Slots + 1} {
		if n >= 0 && n <= lastIndex {
			l = append(l, n)
		}
	}
	return l
}

// ref puts a reference together.
func ref(gen uint64, index int, mark uint64) uint64 {
	return gen*half + 2*uint64(index) + mark
}

// refs are the references of all edges of a plan, with and without the mark, and words that are some too.
func refs(p api.Plan) []uint64 {
	l := slices.Clone(words)
	for _, gen := range gens {
		for _, index := range indices(p) {
			l = append(l, ref(gen, index, 0), ref(gen, index, 1))
		}
	}
	return l
}

// stateAt and succAt tell where the words State and Succ of a slot stand, by chapter 8's sums.
func stateAt(p api.Plan, slot int) int {
	return 4 + 3*p.Threads + p.Levels + (slot-1)*(6+p.Levels)
}
func succAt(p api.Plan, slot int) int { return stateAt(p, slot) + 5 }

// Deeds by their kinds, for short.
func load(at int) api.Deed            { return api.Deed{Kind: 1, At: at} }
func store(at int, w uint64) api.Deed { return api.Deed{Kind: 2, At: at, A: w} }
func swap(at int, old, w uint64) api.Deed {
	return api.Deed{Kind: 3, At: at, A: old, B: w}
}

// behind tells the state that comes behind one of the generation gen: free, of the next one, or gone.
func behind(gen uint64) uint64 {
	if gen == lastGen {
		return 18446744069414584324
	}
	return (gen + 1) * half
}

// turned tells the head that stands behind w when the slot top is on top.
func turned(w uint64, top int) uint64 {
	return (w/half+1)%half*half + uint64(top)
}

// giveOf tells by the chapters' sentences what Give asks for, one deed behind the other, when it is told l, and whether it is done behind that.
func giveOf(p api.Plan, ref uint64, l []uint64) (asked []api.Deed, over bool) {
	gen, slot := ref/half, int(ref%half/2)
	asked = append(asked, store(stateAt(p, slot), behind(gen)))
	if len(l) == 0 || gen == lastGen {
		return asked, len(l) > 0
	}
	for l = l[1:]; ; l = l[3:] {
		asked = append(asked, load(3))
		if len(l) == 0 {
			return asked, false
		}
		w := l[0]
		asked = append(asked, store(succAt(p, slot), w%half))
		if len(l) == 1 {
			return asked, false
		}
		asked = append(asked, swap(3, w, turned(w, slot)))
		if len(l) == 2 || l[2] == w {
			return asked, len(l) > 2
		}
	}
}

// slow does a deed of chapter 7 to words, and tells what was found.
func slow(stand []uint64, d api.Deed) uint64 {
	if d.At < 0 || d.At >= len(stand) {
		return 0
	}
	was := stand[d.At]
	switch {
	case d.Kind == 2:
		stand[d.At] = d.A
	case d.Kind == 3 && was == d.A:
		stand[d.At] = d.B
	}
	return was
}

// asks asks whether a giver asks for d, again and again.
func asks(t *testing.T, k *Giver, d api.Deed) {
	t.Helper()
	for range 3 {
		if got, more := k.Next(); got != d || !more {
			t.Fatalf("%+v is asked for (%v), not %+v", got, more, d)
		}
	}
}

// ended asks whether a task is done, and stays so whatever it is told.
func ended(t *testing.T, k task.Task) {
	t.Helper()
	for _, found := range []uint64{0, 1, 7, half + 1, math.MaxUint64, 0, 0} {
		if got, more := k.Next(); got != (api.Deed{}) || more {
			t.Fatalf("%+v is asked for (%v) by a task that is done", got, more)
		}
		k.Tell(found)
	}
	if got, more := k.Next(); got != (api.Deed{}) || more {
		t.Fatalf("a task that is done went on to %+v (%v)", got, more)
	}
}

// step is a deed that is asked for, and what is told then.
type step struct {
	asked api.Deed
	found uint64
}

// gives asks whether Give of p and a reference asks for the deeds of l, and is done then.
func gives(t *testing.T, p api.Plan, ref uint64, l ...step) {
	t.Helper()
	k := Give(p, ref)
	for _, s := range l {
		asks(t, k, s.asked)
		k.Tell(s.found)
	}
	ended(t, k)
}

// givesAs asks whether Give, told the words of l as long as it asks for deeds, does what the chapters' sentences say.
func givesAs(t *testing.T, p api.Plan, ref uint64, l []uint64) {
	t.Helper()
	asked, over := giveOf(p, ref, l)
	k := Give(p, ref)
	for i, d := range asked {
		if got, more := k.Next(); got != d || !more {
			t.Fatalf("Give of %+v and %d, told %v, asks for %+v (%v) at %d, not %+v", p, ref, l, got, more, i, d)
		}
		if i < len(l) {
			k.Tell(l[i])
		}
	}
	if got, more := k.Next(); more == over || over && got != (api.Deed{}) {
		t.Fatalf("Give of %+v and %d, told %v, asks for %+v (%v) at its end", p, ref, l, got, more)
	}
}

// made makes the memory at the beginning of a right plan.
func made(t *testing.T, p api.Plan) *cells.Cells {
	t.Helper()
	c, err := blank.Make(p)
	if err != api.OK {
		t.Fatalf("no memory of %+v: %d", p, err)
	}
	return c
}

// stands asks whether a memory has just these words.
func stands(t *testing.T, c *cells.Cells, l []uint64) {
	t.Helper()
	if got := c.Words(); !slices.Equal(got, l) {
		t.Fatalf("%v stand, not %v", got, l)
	}
}

// alone does a Give alone to a right plan's memory, and asks whether it finds what its steps say, is done, turned just the words that it shall, and the slot is the top one of the free ones then, and of the next generation, unless it was of the last one.
func alone(t *testing.T, c *cells.Cells, p api.Plan, gen uint64, slot int, mark uint64) {
	t.Helper()
	stand := c.Words()
	free := blank.Free(c, p)
	head := stand[3]
	found := []uint64{stand[stateAt(p, slot)]}
	stand[stateAt(p, slot)] = behind(gen)
	if gen != lastGen {
		found = append(found, head, stand[succAt(p, slot)], head)
		stand[succAt(p, slot)] = head % half
		stand[3] = turned(head, slot)
		free = append([]int{slot}, free...)
	}
	k := Give(p, ref(gen, slot, mark))
	if got := task.Play(c, k, 99); !slices.Equal(got, found) {
		t.Fatalf("Give of %+v, the generation %d and the slot %d found %v, not %v", p, gen, slot, got, found)
	}
	ended(t, k)
	stands(t, c, stand)
	if got := blank.Free(c, p); !slices.Equal(got, free) {
		t.Fatalf("of %+v %v are free behind %d of the generation %d, not %v", p, got, slot, gen, free)
	}
}

// take takes the top slot, alone; 0, if there is none.
func take(c *cells.Cells, p api.Plan) int {
	k := pool.Pop(p)
	task.Play(c, k, 99)
	return k.Index()
}

// 16.1: the chapter's example, each step of it in numbers, and done alone.
func TestExample(t *testing.T) {
	const r = 12884901892 // 3 times 2^32, and 4: the generation 3, the slot 2
	p := api.Plan{Threads: 1, Slots: 3, Levels: 1}
	gives(t, p, r, step{store(15, 17179869184), 9}, step{load(3), 3}, step{store(20, 3), 3}, step{swap(3, 3, 4294967298), 3})
	if w := uint64(17179869184); state.Text(w) != "4 free" || refer.Of(3, 2) != r {
		t.Fatalf("it is %s, of the reference %d", state.Text(w), refer.Of(3, 2))
	}
	c := made(t, p)
	if take(c, p) != 1 || take(c, p) != 2 {
		t.Fatal("other slots were taken")
	}
	c.Store(15, 3*half+3)
	if l := task.Play(c, Give(p, r), 99); !slices.Equal(l, []uint64{3*half + 3, 2*half + 3, 3, 2*half + 3}) {
		t.Fatalf("%v was found", l)
	}
	if c.Load(15) != 4*half || c.Load(20) != 3 || c.Load(3) != 3*half+2 || !slices.Equal(blank.Free(c, p), []int{2, 3}) {
		t.Fatalf("%v stand", c.Words())
	}
}

// 16.1: each deed in the names of api's and of the lower layers.
func TestDeedsByName(t *testing.T) {
	for _, p := range rightPlans() {
		for _, slot := range []int{1, p.Slots} {
			k := Give(p, refer.Of(5, slot))
			asks(t, k, api.Deed{Kind: api.Store, At: plan.State(p, slot), A: state.Of(6, api.Free)})
			k.Tell(state.Of(5, api.Taken))
			asks(t, k, api.Deed{Kind: api.Load, At: api.AtFree})
			k.Tell(7*half + 9)
			asks(t, k, api.Deed{Kind: api.Store, At: plan.Succ(p, slot), A: 9})
			k.Tell(0)
			asks(t, k, api.Deed{Kind: api.Swap, At: api.AtFree, A: 7*half + 9, B: 8*half + uint64(slot)})
			k.Tell(7*half + 9)
			ended(t, k)
			gives(t, p, refer.Of(api.MaxGen, slot), step{api.Deed{Kind: api.Store, At: plan.State(p, slot), A: state.Of(api.MaxGen, api.Gone)}, 1})
		}
	}
}

// 16.1: in numbers, of the edges of generations and indices, with and without the mark.
func TestInNumbers(t *testing.T) {
	gives(t, small, 2, step{store(14, 4294967296), 2}, step{load(3), 0}, step{store(19, 0), 7}, step{swap(3, 0, 4294967297), 0})
	gives(t, small, 3, step{store(14, 4294967296), 2}, step{load(3), 2}, step{store(19, 2), 7}, step{swap(3, 2, 4294967297), 2})
	gives(t, small, 4294967300, step{store(24, 8589934592), 2}, step{load(3), 4294967297}, step{store(29, 1), 7}, step{swap(3, 4294967297, 8589934594), 4294967297})
	gives(t, small, 4294967303, step{store(34, 8589934592), 2}, step{load(3), 4294967297}, step{store(39, 1), 7}, step{swap(3, 4294967297, 8589934595), 4294967297})
	gives(t, small, 18446744065119617030, step{store(34, 18446744069414584320), 2}, step{load(3), 18446744069414584321}, step{store(39, 1), 7}, step{swap(3, 18446744069414584321, 3), 18446744069414584321})
	gives(t, small, 18446744069414584322, step{store(14, 18446744069414584324), 2})
	gives(t, small, 18446744069414584325, step{store(24, 18446744069414584324), 2})
	gives(t, small, 18446744069414584328, step{store(44, 18446744069414584324), 0})
	gives(t, small, 8, step{store(44, 4294967296), 0}, step{load(3), 1}, step{store(49, 1), 0}, step{swap(3, 1, 4294967300), 1})
	gives(t, small, 4294967294, step{store(21474836474, 4294967296), 0}, step{load(3), 1}, step{store(21474836479, 1), 0}, step{swap(3, 1, 6442450943), 1})
	gives(t, api.Plan{Threads: 1, Slots: 1, Levels: 1}, 2, step{store(8, 4294967296), 1}, step{load(3), 0}, step{store(13, 0), 5}, step{swap(3, 0, 4294967297), 0})
	gives(t, api.Plan{Threads: 8, Slots: 64, Levels: 8}, 128, step{store(918, 4294967296), 1}, step{load(3), 63}, step{store(923, 63), 5}, step{swap(3, 63, 4294967360), 63})
}

// 16.1: the word 0 and others of no slot, and the greatest word there is.
func TestWordsOfNoSlot(t *testing.T) {
	gives(t, small, 0, step{store(4, 4294967296), 0}, step{load(3), 1}, step{store(9, 1), 0}, step{swap(3, 1, 4294967296), 1})
	gives(t, small, 1, step{store(4, 4294967296), 0}, step{load(3), 1}, step{store(9, 1), 0}, step{swap(3, 1, 4294967296), 1})
	gives(t, small, 5*half, step{store(4, 6*half), 0}, step{load(3), 8*half + 2}, step{store(9, 2), 0}, step{swap(3, 8*half+2, 9*half), 8*half + 2})
	gives(t, small, 18446744069414584320, step{store(4, 18446744069414584324), 0})
	gives(t, small, 18446744073709551615, step{store(21474836474, 18446744069414584324), 0})
	gives(t, small, 18446744073709551614, step{store(21474836474, 18446744069414584324), 0})
	gives(t, api.Plan{}, 0, step{store(-2, 4294967296), 0}, step{load(3), 1}, step{store(3, 1), 1}, step{swap(3, 1, 4294967296), 1})
	gives(t, api.Plan{}, 18446744073709551615, step{store(12884901880, 18446744069414584324), 0})
}

// 16.1: of all plans and references of the edges, at the first try and at the third one, with just as many steps as the chapter says.
func TestAllEdges(t *testing.T) {
	for _, p := range allPlans() {
		for i, r := range refs(p) {
			gen, slot := r>>32, int(r&(half-1)>>1)
			first := step{store(stateAt(p, slot), behind(gen)), words[i%len(words)]}
			if gen == lastGen {
				gives(t, p, r, first)
				continue
			}
			w, other := words[(i+7)%len(words)], words[(i+8)%len(words)]
			try := []step{{load(3), w}, {store(succAt(p, slot), w%half), other}, {swap(3, w, turned(w, slot)), w}}
			lost := slices.Clone(try)
			lost[2].found = other
			gives(t, p, r, slices.Concat([]step{first}, try)...)
			gives(t, p, r, slices.Concat([]step{first}, lost, lost, try)...)
		}
	}
}

// 16.1: whatever the Store of the state and the Store of Succ find, the steps are the same.
func TestStoresFindWhatever(t *testing.T) {
	for _, a := range words {
		gives(t, small, ref(lastGen, 2, 0), step{store(24, lastGen*half+4), a})
		for _, b := range words {
			gives(t, small, ref(8, 2, 1), step{store(24, 9*half), a}, step{load(3), half + 3}, step{store(29, 3), b}, step{swap(3, half+3, 2*half+2), half + 3})
		}
	}
}

// 16.1: a Swap that finds another word gives nothing back: the load of the head comes next, not the state, and what that finds then is the head.
func TestSwapFindsAnotherHead(t *testing.T) {
	for _, other := range []uint64{4*half + 1, 6*half + 1, 1, 5*half + 2, 5 * half, 6*half + 3, 0, math.MaxUint64} {
		gives(t, small, ref(8, 3, 0),
			step{store(34, 9*half), 0},
			step{load(3), 5*half + 1}, step{store(39, 1), 0}, step{swap(3, 5*half+1, 6*half+3), other},
			step{load(3), 5*half + 1}, step{store(39, 1), 1}, step{swap(3, 5*half+1, 6*half+3), 5*half + 1})
		gives(t, small, ref(8, 3, 0),
			step{store(34, 9*half), 0},
			step{load(3), 5*half + 1}, step{store(39, 1), 0}, step{swap(3, 5*half+1, 6*half+3), other},
			step{load(3), 7*half + 2}, step{store(39, 2), 1}, step{swap(3, 7*half+2, 8*half+3), 5*half + 1},
			step{load(3), 9 * half}, step{store(39, 0), 2}, step{swap(3, 9*half, 10*half+3), 9 * half})
	}
}

// 16.1: each bit of the head counts where the Swap is held against what it asked for.
func TestSwapHoldsTheWholeHead(t *testing.T) {
	for _, w := range []uint64{0, 1, half, half + 3, math.MaxUint64} {
		for bit := range 64 {
			k := Give(small, ref(1, 2, 0))
			for _, found := range []uint64{9, w, 9, w ^ 1<<bit} {
				k.Tell(found)
			}
			asks(t, k, load(3))
		}
	}
}

// 16.1: it goes on as long as its Swap finds another word again and again.
func TestSwapFindsAnotherHeadAgainAndAgain(t *testing.T) {
	k := Give(small, ref(lastGen-1, 2, 0))
	asks(t, k, store(24, lastGen*half))
	k.Tell(0)
	for n := range uint64(10000) {
		w := n*half + n%4
		asks(t, k, load(3))
		k.Tell(w)
		asks(t, k, store(29, n%4))
		k.Tell(n)
		asks(t, k, swap(3, w, (n+1)*half+2))
		k.Tell(w + half)
	}
	k.Tell(10000 * half)
	k.Tell(0)
	k.Tell(10000 * half)
	ended(t, k)
}

// 16.1: of each generation near the last one, and of each bit of one, just the last one is done behind its first step.
func TestLastGeneration(t *testing.T) {
	near := []uint64{lastGen}
	for bit := range 32 {
		near = append(near, lastGen^1<<bit, 1<<bit)
	}
	for n := range uint64(1000) {
		near = append(near, n, lastGen-n)
	}
	for _, gen := range near {
		k := Give(small, ref(gen, 2, gen%2))
		if gen == lastGen {
			asks(t, k, store(24, lastGen*half+4))
			k.Tell(gen)
			ended(t, k)
			continue
		}
		asks(t, k, store(24, (gen+1)*half))
		k.Tell(gen)
		asks(t, k, load(3))
	}
}

// 16.1: the generation with which all slots of the plan begin doesn't count: the reference's own does.
func TestPlansGeneration(t *testing.T) {
	for _, gen := range append(gens, half, math.MaxUint64) {
		p := small
		p.Gen = gen
		gives(t, p, ref(6, 1, 0), step{store(14, 7*half), 0}, step{load(3), 2}, step{store(19, 2), 0}, step{swap(3, 2, half+1), 2})
		gives(t, p, ref(lastGen, 1, 0), step{store(14, lastGen*half+4), 0})
	}
}

// 16.1: whatever word is found at each of the first seven steps, it goes on as the chapters' sentences say.
func TestWhateverIsFound(t *testing.T) {
	edges := []uint64{0, 1, half, half + 1, 1<<63 + 1, math.MaxUint64}
	l := make([]uint64, 7)
	var fill func(i int)
	fill = func(i int) {
		if i == len(l) {
			for _, r := range []uint64{ref(0, 1, 0), ref(lastGen-1, 3, 1), ref(lastGen, 2, 0)} {
				givesAs(t, small, r, l)
			}
			return
		}
		for _, w := range edges {
			l[i] = w
			fill(i + 1)
		}
	}
	fill(0)
}

// 16.1: words of chance, some of which make the Swap find what it asked for, of all plans, and of references of the edges and of chance.
func TestWordsOfChance(t *testing.T) {
	r := rand.New(rand.NewSource(16))
	for _, p := range allPlans() {
		edges := refs(p)
		for range 300 {
			var l []uint64
			for i := range r.Intn(20) {
				w := words[r.Intn(len(words))]
				switch {
				case i > 2 && i%3 == 0 && r.Intn(3) == 0:
					w = l[i-2]
				case r.Intn(2) == 0:
					w = r.Uint64()
				}
				l = append(l, w)
			}
			givesAs(t, p, edges[r.Intn(len(edges))], l)
			givesAs(t, p, r.Uint64(), l)
		}
	}
}

// 16.1: asking changes nothing, however often.
func TestNextChangesNothing(t *testing.T) {
	k := Give(small, ref(8, 2, 0))
	again := func(d api.Deed) {
		t.Helper()
		for range 1000 {
			asks(t, k, d)
		}
	}
	again(store(24, 9*half))
	k.Tell(8*half + 3)
	again(load(3))
	k.Tell(half + 1)
	again(store(29, 1))
	k.Tell(3)
	again(swap(3, half+1, 2*half+2))
	k.Tell(3)
	again(load(3))
	k.Tell(half + 1)
	k.Tell(3)
	k.Tell(half + 1)
	for range 100 {
		ended(t, k)
	}
}

// 16.1: a task is told ahead of being asked, and goes on all the same.
func TestTellAheadOfNext(t *testing.T) {
	told := []uint64{7, 4*half + 3, 77, 9, 5*half + 1, 78, 5*half + 1}
	want := []api.Deed{store(24, 9*half), load(3), store(29, 3), swap(3, 4*half+3, 5*half+2), load(3), store(29, 1), swap(3, 5*half+1, 6*half+2)}
	for n := range told {
		k := Give(small, ref(8, 2, 0))
		for _, found := range told[:n] {
			k.Tell(found)
		}
		asks(t, k, want[n])
	}
	k, last := Give(small, ref(8, 2, 0)), Give(small, ref(lastGen, 2, 0))
	for _, found := range told {
		k.Tell(found)
	}
	ended(t, k)
	last.Tell(8)
	ended(t, last)
}

// 16.1 and R7: a giver that is nil, or that no call made, is done, stays so, and does nothing.
func TestTasksThatNoCallMade(t *testing.T) {
	var none *Giver
	for _, k := range []*Giver{none, {}, new(Giver)} {
		ended(t, k)
		for _, w := range words {
			k.Tell(w)
			ended(t, k)
		}
		c := made(t, small)
		was := c.Words()
		if l := task.Play(c, k, 9); len(l) != 0 {
			t.Errorf("%v was found", l)
		}
		stands(t, c, was)
	}
}

// 16.1: each giver goes its own way, of the same plan and reference and of others.
func TestTasksAreApart(t *testing.T) {
	p := api.Plan{Threads: 1, Slots: 3, Levels: 1}
	a, b, other, last := Give(small, ref(8, 2, 0)), Give(small, ref(8, 2, 0)), Give(p, ref(9, 3, 0)), Give(p, ref(lastGen, 3, 0))
	a.Tell(1)
	asks(t, b, store(24, 9*half))
	asks(t, other, store(22, 10*half))
	a.Tell(half + 1)
	b.Tell(2)
	other.Tell(3)
	last.Tell(4)
	ended(t, last)
	asks(t, a, store(29, 1))
	asks(t, b, load(3))
	asks(t, other, load(3))
	b.Tell(2*half + 3)
	other.Tell(3*half + 2)
	a.Tell(0)
	asks(t, a, swap(3, half+1, 2*half+2))
	asks(t, b, store(29, 3))
	asks(t, other, store(27, 2))
	a.Tell(half + 1)
	ended(t, a)
	b.Tell(0)
	other.Tell(0)
	asks(t, b, swap(3, 2*half+3, 3*half+2))
	asks(t, other, swap(3, 3*half+2, 4*half+3))
}

// 16.2: done alone, of all right plans: each slot, of each edge of a generation, with and without the mark, on a full stack's rest, on one that is empty, and whatever the tag.
func TestAlone(t *testing.T) {
	for _, p := range rightPlans() {
		for _, gen := range gens {
			for slot := 1; slot <= p.Slots; slot++ {
				c := made(t, p)
				for take(c, p) != slot {
				}
				c.Store(stateAt(p, slot), gen*half+3)
				alone(t, c, p, gen, slot, gen%2)
			}
		}
		for _, tag := range gens {
			c := made(t, p)
			c.Store(3, tag*half)
			alone(t, c, p, 4, p.Slots, 0)
			if p.Slots > 1 {
				alone(t, c, p, 4, 1, 1)
			}
		}
	}
}

// 16.2: alone, whatever words stand in the memory, what is stored are the state, and, unless the slot is gone, Succ and the head, and nothing else.
func TestAloneInWordsOfChance(t *testing.T) {
	r := rand.New(rand.NewSource(162))
	for _, p := range rightPlans() {
		for range 60 {
			l := made(t, p).Words()
			for at := range l {
				l[at] = words[r.Intn(len(words))]
				if r.Intn(2) == 0 {
					l[at] = r.Uint64()
				}
			}
			slot, gen := 1+r.Intn(p.Slots), gens[r.Intn(len(gens))]
			c, err := cells.Of(l)
			if err != api.OK {
				t.Fatal(err)
			}
			found := []uint64{l[stateAt(p, slot)]}
			if gen != lastGen {
				found = append(found, l[3], l[succAt(p, slot)], l[3])
				l[3], l[succAt(p, slot)] = turned(l[3], slot), l[3]%half
			}
			l[stateAt(p, slot)] = behind(gen)
			if got := task.Play(c, Give(p, ref(gen, slot, uint64(r.Intn(2)))), 99); !slices.Equal(got, found) {
				t.Fatalf("%v was found, not %v", got, found)
			}
			stands(t, c, l)
		}
	}
}

// 16.2: all slots, taken, and given back one behind the other in ways of chance, each of its own generation, till all of them are gone.
func TestTillAllAreGone(t *testing.T) {
	r := rand.New(rand.NewSource(163))
	for _, p := range rightPlans() {
		p.Gen = lastGen - 2
		c := made(t, p)
		for round := range uint64(3) {
			for range p.Slots {
				if slot := take(c, p); c.Load(stateAt(p, slot)) != (lastGen-2+round)*half {
					t.Fatalf("the state of %d is %s", slot, state.Text(c.Load(stateAt(p, slot))))
				}
			}
			for _, i := range r.Perm(p.Slots) {
				alone(t, c, p, lastGen-2+round, i+1, uint64(r.Intn(2)))
			}
		}
		if slot := take(c, p); slot != 0 || len(blank.Free(c, p)) != 0 {
			t.Fatalf("%d was taken, where all slots are gone", slot)
		}
		for slot := 1; slot <= p.Slots; slot++ {
			if !state.Is(c.Load(stateAt(p, slot)), api.MaxGen, api.Gone) {
				t.Fatalf("the state of %d is %s", slot, state.Text(c.Load(stateAt(p, slot))))
			}
		}
	}
}

// 16.2: the only slot, taken and given back again and again, goes up by one generation each time, and is gone behind the last one.
func TestGenerationsGoUp(t *testing.T) {
	p := api.Plan{Threads: 1, Slots: 1, Levels: 1, Gen: lastGen - 500}
	c := made(t, p)
	for gen := p.Gen; gen <= lastGen; gen++ {
		if slot := take(c, p); slot != 1 || c.Load(8) != gen*half {
			t.Fatalf("%d was taken, in the state %s", slot, state.Text(c.Load(8)))
		}
		alone(t, c, p, gen, 1, 0)
	}
	if slot := take(c, p); slot != 0 || state.Text(c.Load(8)) != "4294967295 gone" {
		t.Fatalf("%d was taken, in the state %s", slot, state.Text(c.Load(8)))
	}
}

// turn is a giver under way: its reference, and what it was told.
type turn struct {
	fast *Giver
	ref  uint64
	told []uint64
}

// step lets the giver do one step, held against what stands by the chapters' sentences, and tells whether it was the last one.
func (g *turn) step(t *testing.T, c *cells.Cells, p api.Plan, stand []uint64) bool {
	t.Helper()
	asked, _ := giveOf(p, g.ref, g.told)
	found := slow(stand, asked[len(asked)-1])
	if l := task.Play(c, g.fast, 1); len(l) != 1 || l[0] != found {
		t.Fatalf("%v was found at one step, not %d", l, found)
	}
	stands(t, c, stand)
	g.told = append(g.told, found)
	_, over := giveOf(p, g.ref, g.told)
	if _, more := g.fast.Next(); more == over {
		t.Fatalf("told %v, more is %v", g.told, more)
	}
	return over
}

// apart asks whether each slot is at one place: free, held by somebody, on its way back, or gone.
func apart(t *testing.T, p api.Plan, free, held, gone []int, now []*turn) {
	t.Helper()
	all := slices.Concat(free, held, gone)
	for _, g := range now {
		all = append(all, int(g.ref%half/2))
	}
	slices.Sort(all)
	if len(all) != p.Slots || len(slices.Compact(all)) != p.Slots {
		t.Fatalf("of %+v %v are free, %v held, %v gone, %d on their way back", p, free, held, gone, len(now))
	}
}

// 16.1: many slots that are given back by turns, in ways of chance, while others are taken, against what stands by the chapters' sentences: no slot is lost, or free twice.
func TestInTurns(t *testing.T) {
	r := rand.New(rand.NewSource(161))
	again := 0
	for _, p := range rightPlans() {
		p.Gen = lastGen - 5
		c := made(t, p)
		stand := c.Words()
		var held, gone []int
		var now []*turn
		for range 900 {
			switch n := r.Intn(8); {
			case n == 0:
				if slot := take(c, p); slot != 0 {
					held = append(held, slot)
				}
				stand = c.Words()
			case n == 1 && len(held) > 0 && len(now) < 5:
				i := r.Intn(len(held))
				w := c.Load(stateAt(p, held[i]))/half*half + 2*uint64(held[i])
				now = append(now, &turn{fast: Give(p, w), ref: w})
				held = slices.Delete(held, i, i+1)
			case len(now) > 0:
				i := r.Intn(len(now))
				g := now[i]
				if g.step(t, c, p, stand) {
					now = slices.Delete(now, i, i+1)
					if len(g.told) == 1 {
						gone = append(gone, int(g.ref%half/2))
					}
				}
				if len(g.told) == 5 {
					again++
				}
			}
			apart(t, p, blank.Free(c, p), held, gone, now)
		}
	}
	if again < 500 {
		t.Errorf("a Swap found another head %d times only", again)
	}
}

// 16.1: between any two of its steps another slot is given back: it comes below this one, and both are free.
func TestAnotherOneBetween(t *testing.T) {
	p := api.Plan{Threads: 2, Slots: 4, Levels: 2}
	for steps := range 5 {
		c := made(t, p)
		for range 3 {
			take(c, p)
		}
		k := Give(p, ref(0, 1, 0))
		task.Play(c, k, steps)
		task.Play(c, Give(p, ref(0, 3, 0)), 99)
		l := task.Play(c, k, 99)
		ended(t, k)
		count, free := 4-steps, []int{1, 3, 4}
		switch steps {
		case 2, 3:
			// The head had been loaded ahead of that, so it is turned at the second try.
			count += 3
		case 4:
			free = []int{3, 1, 4}
		}
		if got := blank.Free(c, p); len(l) != count || !slices.Equal(got, free) {
			t.Fatalf("behind %d steps %v was found, and %v are free", steps, l, got)
		}
	}
}

// 16.1: the state is stored ahead of the slot's being free: nobody who takes it finds the old generation.
func TestStateIsThereAheadOfTheSlot(t *testing.T) {
	p := api.Plan{Threads: 1, Slots: 2, Levels: 1}
	c := made(t, p)
	take(c, p)
	k := Give(p, ref(0, 1, 0))
	for steps, free := range [][]int{{2}, {2}, {2}, {1, 2}} {
		task.Play(c, k, 1)
		if got := blank.Free(c, p); !slices.Equal(got, free) || c.Load(8) != half {
			t.Fatalf("behind the step %d %v are free, and the state is %s", steps+1, got, state.Text(c.Load(8)))
		}
	}
	ended(t, k)
}

// 16.1: of plans that are not right, and of references of no slot, the words that there are turn as the steps say, wherever the sums put them, and it ends.
func TestMemoryOfPlansThatAreNotRight(t *testing.T) {
	for _, p := range allPlans() {
		for i, r := range refs(p) {
			c, err := cells.New(60)
			if err != api.OK {
				t.Fatal(err)
			}
			for at := range c.Len() {
				c.Store(at, uint64(at)*(half+1)*uint64(i%3))
			}
			stand := c.Words()
			g := &turn{fast: Give(p, r), ref: r}
			for n := 0; !g.step(t, c, p, stand); n++ {
				if n == 9 {
					t.Fatalf("Give of %+v and %d goes on behind %v", p, r, g.told)
				}
			}
			ended(t, g.fast)
		}
	}
}

// 16.1: where there is no memory each deed finds 0: so the Swap finds the head that was found.
func TestNoMemory(t *testing.T) {
	for _, c := range []*cells.Cells{nil, new(cells.Cells)} {
		for _, p := range allPlans() {
			for _, gen := range gens {
				want := make([]uint64, 4)
				if gen == lastGen {
					want = want[:1]
				}
				k := Give(p, ref(gen, 2, 0))
				if l := task.Play(c, k, 99); !slices.Equal(l, want) {
					t.Fatalf("%v was found of no memory", l)
				}
				ended(t, k)
			}
		}
	}
}
