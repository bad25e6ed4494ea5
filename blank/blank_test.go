package blank

import (
	"math"
	"math/rand"
	"slices"
	"testing"

	"sundial/api"
	"sundial/cells"
)

// gens are right generations, the least and the greatest one among them; wrongGens are above them.
var (
	gens      = []uint64{0, 1, 7, 1 << 31, 1<<32 - 2, 1<<32 - 1}
	wrongGens = []uint64{1 << 32, 1<<32 + 1, 1<<32 + 7, 1 << 63, math.MaxUint64 - 1, math.MaxUint64}
)

// far are numbers that nothing is counted by, some of which have the lowest bits of such as are.
var far = []int{math.MinInt, math.MinInt + 1, math.MinInt32, -1<<32 + 1, -256 + 1, -64, -8, -2, -1, 66, 256, 257, 4097, 1<<31 - 1, 1 << 32, 1<<32 + 1, 1<<32 + 2, 1 << 62, math.MaxInt - 1, math.MaxInt}

// rightPlans are all that there are, of the generation gen.
func rightPlans(gen uint64) []api.Plan {
	var l []api.Plan
	for threads := 1; threads <= 8; threads++ {
		for slots := 1; slots <= 64; slots++ {
			for levels := 1; levels <= 8; levels++ {
				l = append(l, api.Plan{Threads: threads, Slots: slots, Levels: levels, Gen: gen})
			}
		}
	}
	return l
}

// somePlans are right ones of which each number is the least, one between, or the greatest.
func somePlans() []api.Plan {
	var l []api.Plan
	for _, threads := range []int{1, 3, 8} {
		for _, slots := range []int{1, 2, 3, 5, 63, 64} {
			for _, levels := range []int{1, 4, 8} {
				l = append(l, api.Plan{Threads: threads, Slots: slots, Levels: levels, Gen: gens[len(l)%len(gens)]})
			}
		}
	}
	return l
}

// wrongPlans are those of which one number alone is none that there is, beside small, middle and great ones, and those of which several are.
func wrongPlans() []api.Plan {
	l := []api.Plan{{}, {Threads: -1, Slots: -1, Levels: -1}, {Threads: 9, Slots: 65, Levels: 9, Gen: 1 << 32}, {Threads: math.MaxInt, Slots: math.MaxInt, Levels: math.MaxInt, Gen: math.MaxUint64}, {Threads: math.MinInt, Slots: math.MinInt, Levels: math.MinInt}}
	for _, p := range []api.Plan{{Threads: 1, Slots: 1, Levels: 1}, {Threads: 2, Slots: 3, Levels: 4, Gen: 5}, {Threads: 8, Slots: 64, Levels: 8, Gen: 1<<32 - 1}} {
		for _, n := range far {
			l = append(l, api.Plan{Threads: n, Slots: p.Slots, Levels: p.Levels, Gen: p.Gen}, api.Plan{Threads: p.Threads, Slots: n, Levels: p.Levels, Gen: p.Gen}, api.Plan{Threads: p.Threads, Slots: p.Slots, Levels: n, Gen: p.Gen})
		}
		for _, n := range []int{0, 9} {
			l = append(l, api.Plan{Threads: n, Slots: p.Slots, Levels: p.Levels, Gen: p.Gen}, api.Plan{Threads: p.Threads, Slots: p.Slots, Levels: n, Gen: p.Gen})
		}
		for _, n := range []int{0, 65} {
			l = append(l, api.Plan{Threads: p.Threads, Slots: n, Levels: p.Levels, Gen: p.Gen})
		}
		for _, gen := range wrongGens {
			l = append(l, api.Plan{Threads: p.Threads, Slots: p.Slots, Levels: p.Levels, Gen: gen})
		}
	}
	return l
}

// beginning tells the words at the beginning of a right plan by laying one behind the other, without a place.
func beginning(p api.Plan) []uint64 {
	// The epoch, the clock, the number of the next start, and the free slots' head.
	l := []uint64{1, 0, 0, 1}
	for range p.Threads {
		l = append(l, 0, 0, 0)
	}
	for range p.Levels {
		l = append(l, 0)
	}
	for slot := 1; slot <= p.Slots; slot++ {
		below := uint64(slot + 1)
		if slot == p.Slots {
			below = 0
		}
		l = append(l, p.Gen*4294967296, 0, 0, 0, 0, below)
		for range p.Levels {
			l = append(l, 0)
		}
	}
	return l
}

// succ tells where the word Succ of a slot stands, by chapter 8's sum.
func succ(p api.Plan, slot int) int {
	return 4 + 3*p.Threads + p.Levels + (slot-1)*(6+p.Levels) + 5
}

// freeOf tells the free slots by the chapter's sentences, of words that are handed in; one that is not there is 0.
func freeOf(words []uint64, p api.Plan) []int {
	word := func(at int) uint64 {
		if at >= len(words) {
			return 0
		}
		return words[at]
	}
	stood := map[uint64]bool{}
	l := []int{}
	index := word(3) % 4294967296
	for index != 0 && index <= uint64(p.Slots) && !stood[index] {
		stood[index] = true
		l = append(l, int(index))
		index = word(succ(p, int(index)))
	}
	return l
}

// memory makes a memory of the words of l.
func memory(t *testing.T, l []uint64) *cells.Cells {
	t.Helper()
	c, err := cells.Of(l)
	if err != api.OK {
		t.Fatalf("a memory of %d words: %d", len(l), err)
	}
	return c
}

// made makes the memory at the beginning of a right plan.
func made(t *testing.T, p api.Plan) *cells.Cells {
	t.Helper()
	c, err := Make(p)
	if c == nil || err != api.OK {
		t.Fatalf("Make(%+v): %v, %d", p, c, err)
	}
	return c
}

// stack lets the slots of order be free, from the top on, with a tag beside the top, in c.
func stack(c *cells.Cells, p api.Plan, tag uint64, order ...int) {
	top := uint64(0)
	for _, slot := range slices.Backward(order) {
		c.Store(succ(p, slot), top)
		top = uint64(slot)
	}
	c.Store(3, tag*4294967296+top)
}

// tells asks whether Free tells just those slots of c, and leaves c as it was.
func tells(t *testing.T, c *cells.Cells, p api.Plan, want ...int) {
	t.Helper()
	was := c.Words()
	if got := Free(c, p); !slices.Equal(got, want) {
		t.Fatalf("free in %+v are %v, not %v", p, got, want)
	}
	if !slices.Equal(c.Words(), was) {
		t.Fatalf("Free changed the memory of %+v from %v to %v", p, was, c.Words())
	}
}

// 10.1 and 10.2: the chapter's example, and all its words in numbers.
func TestExample(t *testing.T) {
	p := api.Plan{Threads: 1, Slots: 2, Levels: 1}
	c := made(t, p)
	if got, want := c.Words(), []uint64{1, 0, 0, 1, 0, 0, 0, 0, 0, 0, 0, 0, 0, 2, 0, 0, 0, 0, 0, 0, 0, 0}; !slices.Equal(got, want) {
		t.Errorf("the words are %v, not %v", got, want)
	}
	tells(t, c, p, 1, 2)
}

// 10.1: memories at the beginning, each word in numbers.
func TestMakeInNumbers(t *testing.T) {
	for _, x := range []struct {
		p    api.Plan
		want []uint64
	}{
		{api.Plan{Threads: 1, Slots: 1, Levels: 1}, []uint64{1, 0, 0, 1, 0, 0, 0, 0, 0, 0, 0, 0, 0, 0, 0}},
		{api.Plan{Threads: 1, Slots: 1, Levels: 1, Gen: 4294967295}, []uint64{1, 0, 0, 1, 0, 0, 0, 0, 18446744069414584320, 0, 0, 0, 0, 0, 0}},
		{api.Plan{Threads: 2, Slots: 3, Levels: 2, Gen: 1}, []uint64{1, 0, 0, 1, 0, 0, 0, 0, 0, 0, 0, 0, 4294967296, 0, 0, 0, 0, 2, 0, 0, 4294967296, 0, 0, 0, 0, 3, 0, 0, 4294967296, 0, 0, 0, 0, 0, 0, 0}},
	} {
		if got := made(t, x.p).Words(); !slices.Equal(got, x.want) {
			t.Errorf("the words of %+v are %v, not %v", x.p, got, x.want)
		}
	}
}

// 10.1: each word of all right plans, the smallest and the greatest one among them, of the least, a middle and the greatest generation.
func TestMake(t *testing.T) {
	for _, gen := range []uint64{0, 7, 1<<32 - 1} {
		for _, p := range rightPlans(gen) {
			if got, want := made(t, p).Words(), beginning(p); !slices.Equal(got, want) {
				t.Fatalf("the words of %+v are %v, not %v", p, got, want)
			}
		}
	}
	for _, gen := range gens {
		for _, p := range []api.Plan{{Threads: 1, Slots: 1, Levels: 1, Gen: gen}, {Threads: 8, Slots: 64, Levels: 8, Gen: gen}} {
			if got, want := made(t, p).Words(), beginning(p); !slices.Equal(got, want) {
				t.Fatalf("the words of %+v are %v, not %v", p, got, want)
			}
		}
	}
}

// 10.1: plans that are not right have no memory.
func TestMakeOfWrongPlans(t *testing.T) {
	for _, p := range wrongPlans() {
		if c, err := Make(p); c != nil || err != api.ErrPlan {
			t.Errorf("Make(%+v): %v, %d", p, c, err)
		}
	}
}

// 10.1 and R4: each memory is another one, whatever was done to the one ahead.
func TestMemoriesAreApart(t *testing.T) {
	for _, p := range somePlans() {
		a := made(t, p)
		b := made(t, p)
		for at := range a.Len() {
			a.Store(at, 99)
		}
		for _, c := range []*cells.Cells{b, made(t, p)} {
			if got, want := c.Words(), beginning(p); c == a || !slices.Equal(got, want) {
				t.Fatalf("another memory of %+v is %v, not %v", p, got, want)
			}
		}
	}
}

// 10.2: at the beginning of all right plans each slot is free once, the slot 1 on top, below each the next one.
func TestEachSlotIsFreeOnce(t *testing.T) {
	for _, gen := range []uint64{0, 1<<32 - 1} {
		for _, p := range rightPlans(gen) {
			var want []int
			for slot := 1; slot <= p.Slots; slot++ {
				want = append(want, slot)
			}
			if got := Free(made(t, p), p); !slices.Equal(got, want) {
				t.Fatalf("free in %+v are %v, not %v", p, got, want)
			}
		}
	}
}

// 10.1: stacks of none, of one, and of several slots, with a tag or none, in numbers.
func TestFreeInNumbers(t *testing.T) {
	p := api.Plan{Threads: 1, Slots: 4, Levels: 1, Gen: 3}
	// The words Succ of the slots 1 to 4 are at 13, 20, 27, 34.
	for _, x := range []struct {
		head  uint64
		below [4]uint64
		want  []int
	}{
		{1, [4]uint64{2, 3, 4, 0}, []int{1, 2, 3, 4}},
		{4, [4]uint64{0, 1, 2, 3}, []int{4, 3, 2, 1}},
		{3, [4]uint64{0, 4, 1, 0}, []int{3, 1}},
		{0, [4]uint64{2, 3, 4, 0}, nil},
		{2, [4]uint64{2, 0, 4, 0}, []int{2}},
		{4, [4]uint64{2, 3, 4, 0}, []int{4}},
		{5, [4]uint64{2, 3, 4, 0}, nil},
		{6, [4]uint64{2, 3, 4, 0}, nil},
		{1<<32 - 1, [4]uint64{2, 3, 4, 0}, nil},
		{1<<31 + 1, [4]uint64{2, 3, 4, 0}, nil},
		{9 << 32, [4]uint64{2, 3, 4, 0}, nil},
		{9<<32 + 1, [4]uint64{2, 3, 4, 0}, []int{1, 2, 3, 4}},
		{9<<32 + 5, [4]uint64{2, 3, 4, 0}, nil},
		{math.MaxUint64, [4]uint64{2, 3, 4, 0}, nil},
		{(1<<32-2)<<32 + 4, [4]uint64{2, 3, 4, 0}, []int{4}},
		{(1<<32-1)<<32 + 3, [4]uint64{2, 3, 4, 0}, []int{3, 4}},
		{1, [4]uint64{2, 3, 4, 5}, []int{1, 2, 3, 4}},
		{1, [4]uint64{2, 5, 4, 0}, []int{1, 2}},
		{1, [4]uint64{1, 3, 4, 0}, []int{1}},
		{1, [4]uint64{2, 3, 4, 1}, []int{1, 2, 3, 4}},
		{1, [4]uint64{2, 3, 4, 4}, []int{1, 2, 3, 4}},
		{1, [4]uint64{2, 3, 2, 0}, []int{1, 2, 3}},
		{1, [4]uint64{3, 4, 2, 3}, []int{1, 3, 2, 4}},
		{1, [4]uint64{2, 1 << 32, 4, 0}, []int{1, 2}},
		{1, [4]uint64{2, 1<<32 + 3, 4, 0}, []int{1, 2}},
		{1, [4]uint64{1 << 63, 3, 4, 0}, []int{1}},
		{1, [4]uint64{1<<63 + 2, 3, 4, 0}, []int{1}},
		{1, [4]uint64{math.MaxUint64, 3, 4, 0}, []int{1}},
		{1, [4]uint64{math.MaxUint64 - 1, 3, 4, 0}, []int{1}},
	} {
		c := made(t, p)
		c.Store(3, x.head)
		for i, w := range x.below {
			c.Store(13+7*i, w)
		}
		tells(t, c, p, x.want...)
	}
}

// 10.1: all memories of three slots of which the head and the words Succ are each one from a list of edges, against the chapter's sentences.
func TestFreeOfAllSmallStacks(t *testing.T) {
	p := api.Plan{Threads: 1, Slots: 3, Levels: 2}
	edges := []uint64{0, 1, 2, 3, 4, 255, 256 + 1, 1<<31 + 2, 1<<32 - 1, 1 << 32, 1<<32 + 1, 1<<32 + 2, 1<<32 + 3, 5<<32 + 4, 1 << 63, 1<<63 + 1, math.MaxUint64 - 2, math.MaxUint64}
	c := made(t, p)
	for _, head := range edges {
		c.Store(3, head)
		for _, one := range edges {
			c.Store(succ(p, 1), one)
			for _, two := range edges {
				c.Store(succ(p, 2), two)
				for _, three := range edges {
					c.Store(succ(p, 3), three)
					tells(t, c, p, freeOf(c.Words(), p)...)
				}
			}
		}
	}
}

// 10.1: stacks of none, of each one slot, of some and of all slots in any order, with any tag.
func TestFreeInAnyOrder(t *testing.T) {
	r := rand.New(rand.NewSource(10))
	tags := []uint64{0, 1, 2, 64, 1 << 31, 1<<32 - 2, 1<<32 - 1}
	for _, p := range somePlans() {
		c := made(t, p)
		for _, tag := range tags {
			stack(c, p, tag)
			tells(t, c, p)
			for slot := 1; slot <= p.Slots; slot++ {
				stack(c, p, tag, slot)
				tells(t, c, p, slot)
			}
			for range 20 {
				order := r.Perm(p.Slots)
				for i := range order {
					order[i]++
				}
				stack(c, p, tag, order...)
				tells(t, c, p, order...)
				some := order[:r.Intn(p.Slots+1)]
				stack(c, p, tag, some...)
				tells(t, c, p, some...)
			}
		}
	}
}

// 10.1: where a top of 0, of each slot, and above N leads, with any tag.
func TestFreeFromEachTop(t *testing.T) {
	for _, p := range somePlans() {
		c := made(t, p)
		for _, tag := range []uint64{0, 1, 1 << 31, 1<<32 - 1} {
			for top := 0; top <= p.Slots; top++ {
				var want []int
				for slot := top; slot > 0 && slot <= p.Slots; slot++ {
					want = append(want, slot)
				}
				c.Store(3, tag<<32+uint64(top))
				tells(t, c, p, want...)
			}
			for _, top := range []uint64{uint64(p.Slots) + 1, uint64(p.Slots) + 2, 65, 66, 256 + 1, 1<<16 + 1, 1<<31 - 1, 1 << 31, 1<<31 + 1, 1<<32 - 2, 1<<32 - 1} {
				c.Store(3, tag<<32+top)
				tells(t, c, p)
			}
		}
	}
}

// 10.1: where the word Succ of the top, of one in the middle, or of the lowest slot leads to none, above N, to itself, to the top or to one in the middle again, that slot is the last one.
func TestFreeEndsWhereAWordLeadsNowhere(t *testing.T) {
	for _, p := range somePlans() {
		n := p.Slots
		// Every other slot from the last one on, then the others, so that what is below is not what it was at the beginning.
		var order []int
		for _, first := range []int{n, n - 1} {
			for slot := first; slot > 0; slot -= 2 {
				order = append(order, slot)
			}
		}
		for _, last := range []int{0, n / 2, n - 1} {
			itself, top, middle := uint64(order[last]), uint64(order[0]), uint64(order[last/2])
			for _, w := range []uint64{
				0, uint64(n) + 1, uint64(n) + 2, 65, 256 + 1, 1<<31 + 1, 1<<32 - 1, itself, top, middle,
				1 << 32, 2 << 32, 64 << 32, 1 << 63, (1<<32 - 1) << 32, 1<<32 + 1, 1<<32 + uint64(n), 1<<63 + 1, 1<<63 + uint64(n), math.MaxUint64 - 1, math.MaxUint64,
			} {
				c := made(t, p)
				stack(c, p, 6, order...)
				c.Store(succ(p, order[last]), w)
				tells(t, c, p, order[:last+1]...)
			}
		}
	}
}

// 10.1: stacks of chance, right ones and such as lead round, against the chapter's sentences.
func TestFreeOfStacksOfChance(t *testing.T) {
	r := rand.New(rand.NewSource(11))
	for _, p := range somePlans() {
		for range 100 {
			c := made(t, p)
			for at := range c.Len() {
				c.Store(at, r.Uint64())
			}
			c.Store(3, r.Uint64()<<32+uint64(1+r.Intn(p.Slots)))
			for slot := 1; slot <= p.Slots; slot++ {
				w := uint64(r.Intn(p.Slots + 1))
				if r.Intn(3*p.Slots) == 0 {
					w = r.Uint64() >> r.Intn(64)
				}
				c.Store(succ(p, slot), w)
			}
			tells(t, c, p, freeOf(c.Words(), p)...)
		}
	}
}

// 10.1: which slots are free hangs on the head and the words Succ alone, not on the other words.
func TestFreeAsksTheStackAlone(t *testing.T) {
	for _, p := range somePlans() {
		var stands []int
		for slot := 1; slot <= p.Slots; slot++ {
			stands = append(stands, succ(p, slot))
		}
		for _, w := range []uint64{0, 1, 2, 3<<32 + 2, math.MaxUint64} {
			c := made(t, p)
			for at := range c.Len() {
				if at != 3 && !slices.Contains(stands, at) {
					c.Store(at, w)
				}
			}
			tells(t, c, p, freeOf(beginning(p), p)...)
		}
	}
}

// 10.1: in a memory of fewer words than the plan has, those that are not there are 0; in one of more, those behind are not asked.
func TestFreeOfOtherMemories(t *testing.T) {
	p := api.Plan{Threads: 2, Slots: 3, Levels: 4}
	for n, want := range map[int][]int{0: nil, 1: nil, 3: nil, 4: {1}, 19: {1}, 20: {1, 2}, 29: {1, 2}, 30: {1, 2, 3}, 39: {1, 2, 3}, 40: {1, 2, 3}, 43: {1, 2, 3}, 44: {1, 2, 3}} {
		tells(t, memory(t, beginning(p)[:n]), p, want...)
	}
	for _, p := range somePlans() {
		l := beginning(p)
		for n := range len(l) {
			tells(t, memory(t, l[:n]), p, freeOf(l[:n], p)...)
		}
		tells(t, memory(t, append(l, 9, 9, 9)), p, freeOf(l, p)...)
		tells(t, memory(t, append(l, make([]uint64, api.MaxWords-len(l))...)), p, freeOf(l, p)...)
		tells(t, new(cells.Cells), p)
		if got := Free(nil, p); len(got) != 0 {
			t.Fatalf("free in no memory of %+v are %v", p, got)
		}
	}
}

// 10.1: a memory is asked by the plan that is handed in, be it another one than that of which it was made.
func TestFreeByAnotherPlan(t *testing.T) {
	small := []api.Plan{{Threads: 1, Slots: 1, Levels: 1}, {Threads: 1, Slots: 2, Levels: 1}, {Threads: 2, Slots: 3, Levels: 4}, {Threads: 3, Slots: 3, Levels: 1}, {Threads: 8, Slots: 64, Levels: 8}}
	for _, p := range small {
		for _, q := range small {
			tells(t, made(t, p), q, freeOf(beginning(p), q)...)
		}
	}
	// Fewer slots end the stack of more; the words that more slots would have are not there.
	tells(t, made(t, api.Plan{Threads: 1, Slots: 9, Levels: 2}), api.Plan{Threads: 1, Slots: 4, Levels: 2}, 1, 2, 3, 4)
	tells(t, made(t, api.Plan{Threads: 1, Slots: 4, Levels: 2}), api.Plan{Threads: 1, Slots: 9, Levels: 2}, 1, 2, 3, 4)
}

// 10.1: the generation of the plan changes nothing of which slots are free, as long as the plan is right.
func TestFreeOfGenerations(t *testing.T) {
	c := made(t, api.Plan{Threads: 1, Slots: 3, Levels: 1})
	for _, gen := range gens {
		tells(t, c, api.Plan{Threads: 1, Slots: 3, Levels: 1, Gen: gen}, 1, 2, 3)
	}
	for _, gen := range wrongGens {
		tells(t, c, api.Plan{Threads: 1, Slots: 3, Levels: 1, Gen: gen})
	}
}

// 10.1: of a plan that is not right no slot is free, whatever the memory.
func TestFreeOfWrongPlans(t *testing.T) {
	memories := []*cells.Cells{nil, new(cells.Cells), made(t, api.Plan{Threads: 1, Slots: 1, Levels: 1}), made(t, api.Plan{Threads: 2, Slots: 3, Levels: 4}), made(t, api.Plan{Threads: 8, Slots: 64, Levels: 8}), memory(t, slices.Repeat([]uint64{1}, api.MaxWords))}
	for _, p := range wrongPlans() {
		for i, c := range memories {
			if got := Free(c, p); len(got) != 0 {
				t.Fatalf("free in %+v, in the memory %d, are %v", p, i, got)
			}
		}
	}
}

// 10.1 and R4: what Free told stays as it was, and what is done to it changes no memory and no other list.
func TestWhatFreeToldIsNotKept(t *testing.T) {
	for _, p := range somePlans() {
		c := made(t, p)
		told, again := Free(c, p), Free(c, p)
		want := slices.Clone(again)
		for i := range told {
			told[i] = 77
		}
		if !slices.Equal(again, want) {
			t.Fatalf("of %+v another list became %v", p, again)
		}
		tells(t, c, p, want...)
		c.Store(3, 0)
		if !slices.Equal(again, want) {
			t.Fatalf("of %+v what was told became %v", p, again)
		}
	}
}
