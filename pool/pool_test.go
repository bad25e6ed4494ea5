package pool

import (
	"math"
	"math/rand"
	"slices"
	"testing"

	"sundial/api"
	"sundial/blank"
	"sundial/cells"
	"sundial/task"
)

// half is how often a lower half goes into a word: a word is its high half times half, and its low half.
const half = 4294967296

// tags are the edges of a head's high half.
var tags = []uint64{0, 1, 2, 64, 1<<31 - 1, 1 << 31, 1<<32 - 2, 1<<32 - 1}

// words are the edges of a word.
var words = []uint64{0, 1, 2, 5, 64, 65, 1<<31 - 1, 1 << 31, 1<<32 - 1, 1 << 32, 1<<32 + 1, 1<<32 + 2, 1<<63 - 1, 1 << 63, 1<<63 + 1, math.MaxUint64 - 1, math.MaxUint64}

// far are indices and numbers of which there is none, some of which have the lowest bits of such as there are.
var far = []int{math.MinInt, math.MinInt + 1, math.MinInt32, -1<<32 + 1, -1 << 32, -64, -2, -1, 66, 255, 4096, 1<<31 - 1, 1 << 31, 1<<32 - 1, 1 << 32, 1<<32 + 1, 1 << 62, math.MaxInt - 1, math.MaxInt}

// small is a plan of which the slots' words Succ are at 19, 29 and 39.
var small = api.Plan{Threads: 2, Slots: 3, Levels: 4, Gen: 6}

// rightPlans are such of which each number is the least, one between, or the greatest.
func rightPlans() []api.Plan {
	var l []api.Plan
	for _, threads := range []int{1, 2, 8} {
		for _, slots := range []int{1, 2, 3, 63, 64} {
			for _, levels := range []int{1, 4, 8} {
				l = append(l, api.Plan{Threads: threads, Slots: slots, Levels: levels, Gen: tags[len(l)%len(tags)]})
			}
		}
	}
	return l
}

// wrongPlans are those of which one number alone is none that there is, and those of which several are.
func wrongPlans() []api.Plan {
	l := []api.Plan{{}, {Threads: -1, Slots: -1, Levels: -1}, {Threads: 9, Slots: 65, Levels: 9, Gen: half}, {Threads: math.MaxInt, Slots: math.MaxInt, Levels: math.MaxInt, Gen: math.MaxUint64}, {Threads: math.MinInt, Slots: math.MinInt, Levels: math.MinInt}}
	for _, n := range append([]int{0, 9, 65}, far...) {
		l = append(l, api.Plan{Threads: n, Slots: 3, Levels: 4}, api.Plan{Threads: 2, Slots: 3, Levels: n})
		if n != 9 {
			l = append(l, api.Plan{Threads: 2, Slots: n, Levels: 4})
		}
	}
	for _, gen := range []uint64{half, half + 1, 1 << 63, math.MaxUint64} {
		l = append(l, api.Plan{Threads: 2, Slots: 3, Levels: 4, Gen: gen})
	}
	return l
}

// succ tells where the word Succ of a slot stands, by chapter 8's sum.
func succ(p api.Plan, slot int) int {
	return 4 + 3*p.Threads + p.Levels + (slot-1)*(6+p.Levels) + 5
}

// Deeds by their kinds, for short.
func load(at int) api.Deed            { return api.Deed{Kind: 1, At: at} }
func store(at int, w uint64) api.Deed { return api.Deed{Kind: 2, At: at, A: w} }
func swap(at int, old, w uint64) api.Deed {
	return api.Deed{Kind: 3, At: at, A: old, B: w}
}

// turned tells the head that stands behind w when the slot top is on top.
func turned(w, top uint64) uint64 {
	return (w/half+1)%half*half + top%half
}

// popOf tells by the chapter's sentences what Pop asks for, one deed behind the other, when it is told l, and the slot that it has, and whether it is done, behind that.
func popOf(p api.Plan, l []uint64) (asked []api.Deed, slot int, ended bool) {
	for {
		asked = append(asked, load(3))
		if len(l) == 0 {
			return asked, 0, false
		}
		w := l[0]
		i := w % half
		if i == 0 {
			return asked, 0, true
		}
		asked = append(asked, load(succ(p, int(i))))
		if len(l) == 1 {
			return asked, 0, false
		}
		asked = append(asked, swap(3, w, turned(w, l[1])))
		if len(l) == 2 {
			return asked, 0, false
		}
		if l[2] == w {
			return asked, int(i), true
		}
		l = l[3:]
	}
}

// pushOf tells by the chapter's sentences what Push asks for, one deed behind the other, when it is told l, and whether it is done behind that.
func pushOf(p api.Plan, index int, l []uint64) (asked []api.Deed, ended bool) {
	for {
		asked = append(asked, load(3))
		if len(l) == 0 {
			return asked, false
		}
		w := l[0]
		asked = append(asked, store(succ(p, index), w%half))
		if len(l) == 1 {
			return asked, false
		}
		asked = append(asked, swap(3, w, turned(w, uint64(index))))
		if len(l) == 2 {
			return asked, false
		}
		if l[2] == w {
			return asked, true
		}
		l = l[3:]
	}
}

// asks asks whether a task asks for d, again and again.
func asks(t *testing.T, k task.Task, d api.Deed) {
	t.Helper()
	for range 3 {
		if got, more := k.Next(); got != d || !more {
			t.Fatalf("%+v is asked for (%v), not %+v", got, more, d)
		}
	}
}

// ended asks whether a task is done, and stays so whatever it is told.
func ended(t *testing.T, k task.Task) {
	t.Helper()
	for _, found := range []uint64{0, 1, 7, half + 1, math.MaxUint64, 0, 0} {
		if got, more := k.Next(); got != (api.Deed{}) || more {
			t.Fatalf("%+v is asked for (%v) by a task that is done", got, more)
		}
		k.Tell(found)
	}
	if got, more := k.Next(); got != (api.Deed{}) || more {
		t.Fatalf("a task that is done went on to %+v (%v)", got, more)
	}
}

// has asks whether a popper tells a slot, again and again.
func has(t *testing.T, k *Popper, slot int) {
	t.Helper()
	for range 3 {
		if got := k.Index(); got != slot {
			t.Fatalf("the slot %d is told, not %d", got, slot)
		}
	}
}

// step is a deed that is asked for, and what is told then.
type step struct {
	asked api.Deed
	found uint64
}

// pops asks whether Pop of p asks for the deeds of l, tells no slot as long as it does, and is done with a slot then.
func pops(t *testing.T, p api.Plan, slot int, l ...step) {
	t.Helper()
	k := Pop(p)
	for _, s := range l {
		has(t, k, 0)
		asks(t, k, s.asked)
		has(t, k, 0)
		k.Tell(s.found)
	}
	has(t, k, slot)
	ended(t, k)
	has(t, k, slot)
}

// pushes asks whether Push of p and index asks for the deeds of l, and is done then.
func pushes(t *testing.T, p api.Plan, index int, l ...step) {
	t.Helper()
	k := Push(p, index)
	for _, s := range l {
		asks(t, k, s.asked)
		k.Tell(s.found)
	}
	ended(t, k)
}

// popsAs asks whether Pop, told the words of l as long as it asks for deeds, does what the chapter's sentences say.
func popsAs(t *testing.T, p api.Plan, l []uint64) {
	t.Helper()
	asked, slot, over := popOf(p, l)
	k := Pop(p)
	for i, d := range asked {
		if got, more := k.Next(); got != d || !more || k.Index() != 0 {
			t.Fatalf("Pop of %+v, told %v, asks for %+v (%v) at %d, not %+v, and tells the slot %d", p, l, got, more, i, d, k.Index())
		}
		if i < len(l) {
			k.Tell(l[i])
		}
	}
	if _, more := k.Next(); more == over || k.Index() != slot {
		t.Fatalf("Pop of %+v, told %v, asks for more: %v; it tells the slot %d, not %d", p, l, more, k.Index(), slot)
	}
}

// pushesAs asks whether Push, told the words of l as long as it asks for deeds, does what the chapter's sentences say.
func pushesAs(t *testing.T, p api.Plan, index int, l []uint64) {
	t.Helper()
	asked, over := pushOf(p, index, l)
	k := Push(p, index)
	for i, d := range asked {
		if got, more := k.Next(); got != d || !more {
			t.Fatalf("Push of %+v and %d, told %v, asks for %+v (%v) at %d, not %+v", p, index, l, got, more, i, d)
		}
		if i < len(l) {
			k.Tell(l[i])
		}
	}
	if _, more := k.Next(); more == over {
		t.Fatalf("Push of %+v and %d, told %v, asks for more: %v", p, index, l, more)
	}
}

// made makes the memory at the beginning of a right plan.
func made(t *testing.T, p api.Plan) *cells.Cells {
	t.Helper()
	c, err := blank.Make(p)
	if err != api.OK {
		t.Fatalf("no memory of %+v: %d", p, err)
	}
	return c
}

// take lets a slot be taken, alone, and tells it, and what was found.
func take(c *cells.Cells, p api.Plan) (int, []uint64) {
	k := Pop(p)
	found := task.Play(c, k, 99)
	return k.Index(), found
}

// give gives a slot back, alone, and tells what was found.
func give(c *cells.Cells, p api.Plan, slot int) []uint64 {
	return task.Play(c, Push(p, slot), 99)
}

// 12.1, 12.2 and 12.3: the chapter's example, each step and word of it in numbers.
func TestExample(t *testing.T) {
	p := api.Plan{Threads: 1, Slots: 3, Levels: 1}
	c := made(t, p)
	one := Pop(p)
	if l := task.Play(c, one, 99); !slices.Equal(l, []uint64{1, 2, 1}) || one.Index() != 1 || c.Load(3) != half+2 {
		t.Fatalf("the first one: %v, slot %d, head %d", l, one.Index(), c.Load(3))
	}
	if slot, l := take(c, p); !slices.Equal(l, []uint64{half + 2, 3, half + 2}) || slot != 2 || c.Load(3) != 2*half+3 {
		t.Fatalf("the second one: %v, slot %d, head %d", l, slot, c.Load(3))
	}
	if l := give(c, p, 1); !slices.Equal(l, []uint64{2*half + 3, 2, 2*half + 3}) || c.Load(3) != 3*half+1 || c.Load(13) != 3 {
		t.Fatalf("given back: %v, head %d, below %d", l, c.Load(3), c.Load(13))
	}
	if slot, l := take(c, p); !slices.Equal(l, []uint64{3*half + 1, 3, 3*half + 1}) || slot != 1 || c.Load(3) != 4*half+3 {
		t.Fatalf("taken again: %v, slot %d, head %d", l, slot, c.Load(3))
	}
	if one.Index() != 1 {
		t.Fatalf("the first one tells %d by now", one.Index())
	}
}

// 12.1: Pop in numbers, at the first try: of one slot and of many, of a head and a word Succ of any high half.
func TestPopInNumbers(t *testing.T) {
	pops(t, small, 1, step{load(3), 1}, step{load(19), 2}, step{swap(3, 1, 4294967298), 1})
	pops(t, small, 2, step{load(3), 2}, step{load(29), 0}, step{swap(3, 2, 4294967296), 2})
	pops(t, small, 3, step{load(3), 4294967299}, step{load(39), 1}, step{swap(3, 4294967299, 8589934593), 4294967299})
	pops(t, small, 1, step{load(3), 18446744069414584321}, step{load(19), 3}, step{swap(3, 18446744069414584321, 3), 18446744069414584321})
	pops(t, small, 1, step{load(3), 18446744065119617025}, step{load(19), 0}, step{swap(3, 18446744065119617025, 18446744069414584320), 18446744065119617025})
	pops(t, small, 2, step{load(3), 9223372032559808514}, step{load(29), 18446744073709551615}, step{swap(3, 9223372032559808514, 9223372041149743103), 9223372032559808514})
	pops(t, small, 2, step{load(3), 2}, step{load(29), 12884901891}, step{swap(3, 2, 4294967299), 2})
	pops(t, small, 2, step{load(3), 2}, step{load(29), 12884901888}, step{swap(3, 2, 4294967296), 2})
	pops(t, api.Plan{Threads: 1, Slots: 1, Levels: 1}, 1, step{load(3), 1}, step{load(13), 0}, step{swap(3, 1, 4294967296), 1})
	pops(t, api.Plan{Threads: 8, Slots: 64, Levels: 8}, 64, step{load(3), 64}, step{load(923), 7}, step{swap(3, 64, 4294967303), 64})
}

// 12.1: where no slot is free, Pop is done behind its first step, and has none, whatever the tag.
func TestPopOfNone(t *testing.T) {
	for _, p := range append(rightPlans(), wrongPlans()...) {
		for _, tag := range tags {
			pops(t, p, 0, step{load(3), tag * half})
		}
	}
}

// 12.1: a Swap that finds another word takes nothing, and Pop begins anew, with what it finds then.
func TestPopAtALaterTry(t *testing.T) {
	// What is found differs in the high half alone, in the low half alone, in both, and is 0, or what should come.
	for _, other := range []uint64{4*half + 2, 6*half + 2, 2, 5*half + 1, 5 * half, 5*half + 3, 4*half + 1, 0, math.MaxUint64, 6*half + 3} {
		pops(t, small, 2,
			step{load(3), 5*half + 2}, step{load(29), 3}, step{swap(3, 5*half+2, 6*half+3), other},
			step{load(3), 5*half + 2}, step{load(29), 3}, step{swap(3, 5*half+2, 6*half+3), 5*half + 2})
		pops(t, small, 1,
			step{load(3), 5*half + 2}, step{load(29), 3}, step{swap(3, 5*half+2, 6*half+3), other},
			step{load(3), 7*half + 1}, step{load(19), 2}, step{swap(3, 7*half+1, 8*half+2), 5*half + 2},
			step{load(3), 9*half + 3}, step{load(39), 0}, step{swap(3, 9*half+3, 10*half), 7*half + 1},
			step{load(3), 11*half + 1}, step{load(19), 2}, step{swap(3, 11*half+1, 12*half+2), 11*half + 1})
		pops(t, small, 0,
			step{load(3), 5*half + 2}, step{load(29), 3}, step{swap(3, 5*half+2, 6*half+3), other},
			step{load(3), 5 * half})
	}
}

// 12.1: each bit of the head counts where the Swap is held against what it asked for.
func TestPopHoldsTheWholeHead(t *testing.T) {
	for _, w := range []uint64{1, 2, half + 3, math.MaxUint64 - half + 2, math.MaxUint64} {
		for bit := range 64 {
			k := Pop(small)
			k.Tell(w)
			k.Tell(1)
			k.Tell(w ^ 1<<bit)
			has(t, k, 0)
			asks(t, k, load(3))
		}
	}
}

// 12.1: Pop goes on as long as its Swap finds another word again and again, and has a slot, or none, as soon as it doesn't.
func TestPopAgainAndAgain(t *testing.T) {
	for _, top := range []uint64{0, 2} {
		k := Pop(small)
		for n := range uint64(10000) {
			w := n%half*half + 1 + n%3
			slot := int(w % half)
			below := n * 7
			asks(t, k, load(3))
			k.Tell(w)
			asks(t, k, load(9+10*slot))
			k.Tell(below)
			asks(t, k, swap(3, w, (n+1)*half+below))
			has(t, k, 0)
			k.Tell(w + half)
			has(t, k, 0)
		}
		w := 10000*half + top
		k.Tell(w)
		if top != 0 {
			has(t, k, 0)
			k.Tell(3)
			k.Tell(w)
		}
		has(t, k, int(top))
		ended(t, k)
	}
}

// 12.1: what Index tells ahead of the first Tell, behind each one, and when Pop is done with a slot and with none.
func TestIndex(t *testing.T) {
	k := Pop(small)
	has(t, k, 0)
	for _, found := range []uint64{3, 2, 1, 3, 1, 2} {
		k.Tell(found)
		has(t, k, 0)
	}
	k.Tell(2)
	has(t, k, 0)
	k.Tell(1)
	has(t, k, 0)
	k.Tell(2)
	has(t, k, 2)
	for _, found := range words {
		k.Tell(found)
		has(t, k, 2)
	}

	k = Pop(small)
	for _, found := range []uint64{3, 2, 1} {
		k.Tell(found)
		has(t, k, 0)
	}
	k.Tell(8 * half)
	has(t, k, 0)
	for _, found := range words {
		k.Tell(found)
		has(t, k, 0)
	}
}

// 12.1: a head with an index of which there is no slot is taken as the steps say, by the sum of chapter 8.
func TestPopOfSlotsThatThereAreNot(t *testing.T) {
	for _, p := range rightPlans() {
		for _, tag := range tags {
			for _, slot := range []int{p.Slots + 1, p.Slots + 2, 65, 66, 255, 256, 257, 1<<31 - 1, 1 << 31, 1<<31 + 1, 1<<32 - 2, 1<<32 - 1} {
				w := tag*half + uint64(slot)
				pops(t, p, slot, step{load(3), w}, step{load(succ(p, slot)), 9}, step{swap(3, w, turned(w, 9)), w})
			}
		}
	}
}

// 12.2: Push in numbers, at the first try: of the first slot, of one between and of the last one, on none, on one and on itself, whatever the tag.
func TestPushInNumbers(t *testing.T) {
	pushes(t, small, 1, step{load(3), 0}, step{store(19, 0), 7}, step{swap(3, 0, 4294967297), 0})
	pushes(t, small, 2, step{load(3), 3}, step{store(29, 3), 0}, step{swap(3, 3, 4294967298), 3})
	pushes(t, small, 3, step{load(3), 4294967298}, step{store(39, 2), math.MaxUint64}, step{swap(3, 4294967298, 8589934595), 4294967298})
	pushes(t, small, 3, step{load(3), 8589934595}, step{store(39, 3), 1}, step{swap(3, 8589934595, 12884901891), 8589934595})
	pushes(t, small, 1, step{load(3), 18446744069414584320}, step{store(19, 0), 1}, step{swap(3, 18446744069414584320, 1), 18446744069414584320})
	pushes(t, small, 1, step{load(3), 18446744073709551615}, step{store(19, 4294967295), 1}, step{swap(3, 18446744073709551615, 1), 18446744073709551615})
	pushes(t, small, 2, step{load(3), 18446744065119617027}, step{store(29, 3), 1}, step{swap(3, 18446744065119617027, 18446744069414584322), 18446744065119617027})
	pushes(t, api.Plan{Threads: 1, Slots: 1, Levels: 1}, 1, step{load(3), 0}, step{store(13, 0), 5}, step{swap(3, 0, 4294967297), 0})
	pushes(t, api.Plan{Threads: 8, Slots: 64, Levels: 8}, 64, step{load(3), 63}, step{store(923, 63), 5}, step{swap(3, 63, 4294967360), 63})
}

// 12.2: an index of 0, below 0, or of no slot: the steps are the same, by the sum of chapter 8, and the head's low half is the index's own.
func TestPushOfSlotsThatThereAreNot(t *testing.T) {
	pushes(t, small, 0, step{load(3), 4294967297}, step{store(9, 1), 5}, step{swap(3, 4294967297, 8589934592), 4294967297})
	pushes(t, small, -1, step{load(3), 4294967297}, step{store(-1, 1), 0}, step{swap(3, 4294967297, 12884901887), 4294967297})
	pushes(t, small, 4, step{load(3), 4294967297}, step{store(49, 1), 0}, step{swap(3, 4294967297, 8589934596), 4294967297})
	pushes(t, small, 1<<32+2, step{load(3), 1}, step{store(42949672989, 1), 0}, step{swap(3, 1, 4294967298), 1})
	pushes(t, small, 1<<32, step{load(3), 1}, step{store(42949672969, 1), 0}, step{swap(3, 1, 4294967296), 1})
	for _, p := range rightPlans() {
		for _, index := range append([]int{0, p.Slots + 1, 65}, far...) {
			for _, tag := range tags {
				w := tag*half + 1
				pushes(t, p, index, step{load(3), w}, step{store(succ(p, index), 1), 0}, step{swap(3, w, turned(w, uint64(index))), w})
			}
		}
	}
}

// 12.2: a Swap that finds another word gives nothing back, and Push begins anew, with what it finds then.
func TestPushAtALaterTry(t *testing.T) {
	for _, other := range []uint64{4*half + 2, 6*half + 2, 2, 5*half + 1, 5 * half, 5*half + 3, 4*half + 1, 0, math.MaxUint64, 6*half + 3} {
		pushes(t, small, 3,
			step{load(3), 5*half + 2}, step{store(39, 2), 0}, step{swap(3, 5*half+2, 6*half+3), other},
			step{load(3), 5*half + 2}, step{store(39, 2), 2}, step{swap(3, 5*half+2, 6*half+3), 5*half + 2})
		pushes(t, small, 3,
			step{load(3), 5*half + 2}, step{store(39, 2), 0}, step{swap(3, 5*half+2, 6*half+3), other},
			step{load(3), 7*half + 1}, step{store(39, 1), 2}, step{swap(3, 7*half+1, 8*half+3), 5*half + 2},
			step{load(3), 9 * half}, step{store(39, 0), 1}, step{swap(3, 9*half, 10*half+3), 7*half + 1},
			step{load(3), 11*half + 1}, step{store(39, 1), 0}, step{swap(3, 11*half+1, 12*half+3), 11*half + 1})
	}
}

// 12.2: each bit of the head counts where the Swap is held against what it asked for.
func TestPushHoldsTheWholeHead(t *testing.T) {
	for _, w := range []uint64{0, 1, half, half + 3, math.MaxUint64} {
		for bit := range 64 {
			k := Push(small, 2)
			k.Tell(w)
			k.Tell(1)
			k.Tell(w ^ 1<<bit)
			asks(t, k, load(3))
		}
	}
}

// 12.2: Push goes on as long as its Swap finds another word again and again.
func TestPushAgainAndAgain(t *testing.T) {
	k := Push(small, 2)
	for n := range uint64(10000) {
		w := n*half + n%4
		asks(t, k, load(3))
		k.Tell(w)
		asks(t, k, store(29, n%4))
		k.Tell(n)
		asks(t, k, swap(3, w, (n+1)*half+2))
		k.Tell(w + half)
	}
	k.Tell(10000 * half)
	k.Tell(0)
	k.Tell(10000 * half)
	ended(t, k)
}

// 12.1 and 12.2: whatever word is found at each of the first seven steps, both go on as the chapter's sentences say.
func TestWhateverIsFound(t *testing.T) {
	edges := []uint64{0, 1, 2, half, half + 1, 1<<63 + 1, math.MaxUint64}
	l := make([]uint64, 7)
	var fill func(i int)
	fill = func(i int) {
		if i == len(l) {
			popsAs(t, small, l)
			pushesAs(t, small, 3, l)
			return
		}
		for _, w := range edges {
			l[i] = w
			fill(i + 1)
		}
	}
	fill(0)
}

// 12.1 and 12.2: words of chance, some of which make the Swap find what it asked for, of plans that are right and such as are not, and of any index.
func TestWordsOfChance(t *testing.T) {
	r := rand.New(rand.NewSource(12))
	for _, p := range append(rightPlans(), wrongPlans()...) {
		indices := append([]int{0, 1, 2, p.Slots, p.Slots - 1, p.Slots + 1}, far...)
		for range 300 {
			var l []uint64
			for i := range r.Intn(20) {
				w := words[r.Intn(len(words))]
				switch {
				case i%3 == 2 && r.Intn(3) == 0:
					w = l[i-2]
				case r.Intn(2) == 0:
					w = r.Uint64()
				}
				l = append(l, w)
			}
			popsAs(t, p, l)
			pushesAs(t, p, indices[r.Intn(len(indices))], l)
		}
	}
}

// 12.1 and 12.2: of plans that are not right the steps are the same, at the places that the sums of chapter 8 tell.
func TestWrongPlans(t *testing.T) {
	pops(t, api.Plan{}, 1, step{load(3), 1}, step{load(9), 2}, step{swap(3, 1, 4294967298), 1})
	pushes(t, api.Plan{}, 2, step{load(3), 1}, step{store(15, 1), 2}, step{swap(3, 1, 4294967298), 1})
	for _, p := range wrongPlans() {
		for _, slot := range []int{1, 2, 3, 64, 65, 1<<32 - 1} {
			w := 5*half + uint64(slot)
			pops(t, p, slot, step{load(3), w}, step{load(succ(p, slot)), 2}, step{swap(3, w, 6*half+2), w})
			pushes(t, p, slot, step{load(3), 5*half + 9}, step{store(succ(p, slot), 9), 2}, step{swap(3, 5*half+9, 6*half+uint64(slot)), 5*half + 9})
		}
		c, err := cells.New(api.MaxWords)
		if err != api.OK {
			t.Fatal(err)
		}
		for at := range c.Len() {
			c.Store(at, uint64(at))
		}
		give(c, p, 7)
		take(c, p)
		for _, none := range []*cells.Cells{nil, new(cells.Cells)} {
			if slot, found := take(none, p); slot != 0 || !slices.Equal(found, []uint64{0}) {
				t.Fatalf("%d was taken of no memory, %v was found", slot, found)
			}
			if found := give(none, p, 7); !slices.Equal(found, []uint64{0, 0, 0}) {
				t.Fatalf("%v was found of no memory", found)
			}
		}
	}
}

// 12.1, 12.2 and R7: a task that is nil, or that no call made, is done, stays so, and tells nothing.
func TestTasksThatNoCallMade(t *testing.T) {
	var popper *Popper
	var pusher *Pusher
	for _, k := range []task.Task{popper, &Popper{}, new(Popper), pusher, &Pusher{}, new(Pusher)} {
		ended(t, k)
		c := made(t, small)
		was := c.Words()
		if l := task.Play(c, k, 9); len(l) != 0 || !slices.Equal(c.Words(), was) {
			t.Errorf("%v was found, %v stand", l, c.Words())
		}
	}
	for _, k := range []*Popper{popper, {}, new(Popper)} {
		has(t, k, 0)
		for _, w := range words {
			k.Tell(w)
			has(t, k, 0)
		}
	}
}

// 12.1 and 12.2: a task is told ahead of being asked, and goes on all the same.
func TestTellAheadOfNext(t *testing.T) {
	k := Pop(small)
	k.Tell(4*half + 2)
	k.Tell(9*half + 3)
	asks(t, k, swap(3, 4*half+2, 5*half+3))
	k.Tell(4*half + 2)
	has(t, k, 2)
	ended(t, k)
	g := Push(small, 2)
	g.Tell(4*half + 3)
	g.Tell(77)
	asks(t, g, swap(3, 4*half+3, 5*half+2))
	g.Tell(4*half + 3)
	ended(t, g)
}

// 12.1 and 12.2: each task goes its own way, of whatever plan.
func TestTasksAreApart(t *testing.T) {
	p := api.Plan{Threads: 1, Slots: 3, Levels: 1}
	a, b, x, y := Pop(small), Pop(p), Push(small, 3), Push(p, 2)
	a.Tell(1)
	b.Tell(half + 2)
	x.Tell(2*half + 1)
	y.Tell(3*half + 3)
	asks(t, a, load(19))
	asks(t, b, load(20))
	asks(t, x, store(39, 1))
	asks(t, y, store(20, 3))
	a.Tell(2)
	x.Tell(0)
	b.Tell(3)
	y.Tell(0)
	asks(t, a, swap(3, 1, half+2))
	asks(t, b, swap(3, half+2, 2*half+3))
	asks(t, x, swap(3, 2*half+1, 3*half+3))
	asks(t, y, swap(3, 3*half+3, 4*half+2))
	a.Tell(1)
	x.Tell(2*half + 1)
	has(t, a, 1)
	has(t, b, 0)
	ended(t, x)
	asks(t, b, swap(3, half+2, 2*half+3))
	asks(t, y, swap(3, 3*half+3, 4*half+2))
}

// 12.3: at the beginning all slots are taken once, the first one first, then none, and given back in any order they are taken the other way round.
func TestAllSlots(t *testing.T) {
	r := rand.New(rand.NewSource(13))
	for _, p := range rightPlans() {
		c := made(t, p)
		for slot := 1; slot <= p.Slots; slot++ {
			if got, found := take(c, p); got != slot || len(found) != 3 {
				t.Fatalf("of %+v %d was taken, %v found, not %d", p, got, found, slot)
			}
		}
		for range 3 {
			if got, found := take(c, p); got != 0 || len(found) != 1 {
				t.Fatalf("of %+v %d was taken, %v found, where none is free", p, got, found)
			}
		}
		order := r.Perm(p.Slots)
		for _, i := range order {
			give(c, p, i+1)
		}
		for _, i := range slices.Backward(order) {
			if got, _ := take(c, p); got != i+1 {
				t.Fatalf("of %+v, given back in the order of %v, %d was taken, not %d", p, order, got, i+1)
			}
		}
		if got, _ := take(c, p); got != 0 || c.Load(3) != uint64(3*p.Slots)*half {
			t.Fatalf("of %+v %d was taken, the head is %d", p, got, c.Load(3))
		}
	}
}

// 12.1, 12.2 and 12.3: slots that are taken and given back in any order, each done alone, against a list of the free ones and all words of the memory; the tag goes round its end.
func TestTakenAndGivenBack(t *testing.T) {
	r := rand.New(rand.NewSource(14))
	for _, p := range rightPlans() {
		for _, tag := range []uint64{0, 1 << 31, 1<<32 - 20} {
			c := made(t, p)
			c.Store(3, tag*half+1)
			stand := c.Words()
			var free, mine []int
			for slot := p.Slots; slot >= 1; slot-- {
				free = append(free, slot)
			}
			for range 200 {
				if len(mine) == 0 || r.Intn(2) == 0 {
					slot, _ := take(c, p)
					want := 0
					if n := len(free); n > 0 {
						want, free = free[n-1], free[:n-1]
						mine = append(mine, want)
						stand[3] = turned(stand[3], stand[succ(p, want)])
					}
					if slot != want {
						t.Fatalf("of %+v %d was taken, not %d", p, slot, want)
					}
				} else {
					i := r.Intn(len(mine))
					slot := mine[i]
					give(c, p, slot)
					mine, free = slices.Delete(mine, i, i+1), append(free, slot)
					stand[succ(p, slot)] = stand[3] % half
					stand[3] = turned(stand[3], uint64(slot))
				}
				if !slices.Equal(c.Words(), stand) {
					t.Fatalf("of %+v %v stand, not %v", p, c.Words(), stand)
				}
			}
		}
	}
}

// 12.1: a head that comes back with the same top is another one, as its tag is: who looked at it ahead of that takes nothing by it.
func TestOldHead(t *testing.T) {
	for _, tag := range tags {
		for looked := 1; looked <= 2; looked++ {
			c := made(t, small)
			c.Store(3, tag*half+1)
			k := Pop(small)
			task.Play(c, k, looked)
			for want := 1; want <= 2; want++ {
				if slot, _ := take(c, small); slot != want {
					t.Fatalf("%d was taken, not %d", slot, want)
				}
			}
			give(c, small, 1)
			// The slot 1 is on top again, but 3 is below it by now, and 2 is not free.
			task.Play(c, k, 3-looked)
			has(t, k, 0)
			asks(t, k, load(3))
			task.Play(c, k, 99)
			has(t, k, 1)
			if l := blank.Free(c, small); !slices.Equal(l, []int{3}) || c.Load(3) != (tag+4)%half*half+3 {
				t.Fatalf("free are %v, the head is %d", l, c.Load(3))
			}
		}
	}
}

// worker is somebody who takes slots (p) and gives back the one that it has had longest (g), in the order of its jobs.
type worker struct {
	jobs string
	now  task.Task
	mine []int
}

// ready tells whether the worker has a deed to do.
func (w *worker) ready(p api.Plan) bool {
	for {
		if w.now != nil {
			if _, more := w.now.Next(); more {
				return true
			}
			w.now = nil
		}
		if w.jobs == "" {
			return false
		}
		job := w.jobs[0]
		w.jobs = w.jobs[1:]
		switch {
		case job == 'p':
			w.now = Pop(p)
		case len(w.mine) > 0:
			w.now = Push(p, w.mine[0])
		}
	}
}

// step lets the worker do one deed; it has a slot as soon as it took it, and till it gave it back.
func (w *worker) step(c *cells.Cells) {
	task.Play(c, w.now, 1)
	if _, more := w.now.Next(); more {
		return
	}
	switch k := w.now.(type) {
	case *Popper:
		if k.Index() != 0 {
			w.mine = append(w.mine, k.Index())
		}
	case *Pusher:
		w.mine = w.mine[1:]
	}
	w.now = nil
}

// work lets workers of these jobs go on, one deed at a time, the one that pick picks of those that have one; each slot is free, or somebody's, once, behind each deed.
func work(t *testing.T, p api.Plan, pick func(n int) int, jobs ...string) {
	t.Helper()
	c := made(t, p)
	var all []*worker
	for _, l := range jobs {
		all = append(all, &worker{jobs: l})
	}
	for {
		var able []*worker
		for _, w := range all {
			if w.ready(p) {
				able = append(able, w)
			}
		}
		if len(able) == 0 {
			return
		}
		able[pick(len(able))].step(c)
		l := blank.Free(c, p)
		for _, w := range all {
			l = append(l, w.mine...)
		}
		slices.Sort(l)
		if len(l) != p.Slots || l[0] != 1 || len(slices.Compact(l)) != p.Slots {
			t.Fatalf("of %q free, or somebody's, are %v", jobs, l)
		}
	}
}

// everyWay calls f with a function that picks one of so many, for each way in which it can.
func everyWay(f func(pick func(n int) int)) {
	var picked, of []int
	for {
		i := 0
		f(func(n int) int {
			if i == len(picked) {
				picked, of = append(picked, 0), append(of, n)
			}
			i++
			return picked[i-1]
		})
		last := len(picked) - 1
		for last >= 0 && picked[last] == of[last]-1 {
			last--
		}
		if last < 0 {
			return
		}
		picked, of = picked[:last+1], of[:last+1]
		picked[last]++
	}
}

// 12.1 and 12.2: in every way in which two go on by turns, no slot is had twice, and none is lost.
func TestEveryWayOfTwo(t *testing.T) {
	for slots := 1; slots <= 3; slots++ {
		p := api.Plan{Threads: 2, Slots: slots, Levels: 1}
		for _, jobs := range [][]string{{"p", "p"}, {"pg", "pg"}, {"p", "ppg"}, {"p", "ppgp"}, {"pp", "pg"}} {
			everyWay(func(pick func(n int) int) { work(t, p, pick, jobs...) })
		}
	}
}

// 12.1 and 12.2: in ways of chance in which many go on by turns, no slot is had twice, and none is lost.
func TestWaysOfMany(t *testing.T) {
	r := rand.New(rand.NewSource(15))
	for range 200 {
		p := api.Plan{Threads: 8, Slots: 1 + r.Intn(9), Levels: 1 + r.Intn(8)}
		var jobs []string
		for range 2 + r.Intn(7) {
			l := ""
			for range r.Intn(12) {
				l += "pg"[r.Intn(2):][:1]
			}
			jobs = append(jobs, l)
		}
		work(t, p, r.Intn, jobs...)
	}
}
