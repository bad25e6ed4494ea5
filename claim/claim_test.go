package claim

import (
	"math"
	"math/rand"
	"slices"
	"testing"

	"sundial/api"
	"sundial/blank"
	"sundial/cells"
	"sundial/give"
	"sundial/mint"
	"sundial/plan"
	"sundial/pool"
	"sundial/refer"
	"sundial/state"
	"sundial/task"
)

// half is how often a lower half goes into a word: a word is its high half times half, and its low half.
const half = 4294967296

// lastGen and lastIndex are the greatest generation and index that a reference has.
const (
	lastGen   = 4294967295
	lastIndex = 2147483647
)

// gens are the edges of a generation.
var gens = []uint64{0, 1, 2, 3, 77, 1<<31 - 1, 1 << 31, lastGen - 1, lastGen}

// words are the edges of a word.
var words = []uint64{0, 1, 2, 3, 4, 5, 6, 7, 128, 129, 130, 131, 1<<31 - 1, 1 << 31, half - 2, half - 1, half, half + 1, half + 2, half + 3, half + 4, 1<<63 - 1, 1 << 63, 1<<63 + 2, 1<<63 + 3, lastGen * half, lastGen*half + 1, lastGen*half + 2, lastGen*half + 3, math.MaxUint64 - 1, math.MaxUint64}

// small is a plan of which the slots' words State are at 14, 24 and 34.
var small = api.Plan{Threads: 2, Slots: 3, Levels: 4, Gen: 6}

// rightPlans are such of which each number is the least, one between, or the greatest.
func rightPlans() []api.Plan {
	var l []api.Plan
	for _, threads := range []int{1, 3, 8} {
		for _, slots := range []int{1, 2, 5, 63, 64} {
			for _, levels := range []int{1, 4, 8} {
				l = append(l, api.Plan{Threads: threads, Slots: slots, Levels: levels, Gen: gens[len(l)%len(gens)]})
			}
		}
	}
	return l
}

// wrongPlans are those of which one number alone is none that there is, such as no slot and no level, and those of which several are.
func wrongPlans() []api.Plan {
	l := []api.Plan{{}, {Threads: -1, Slots: -1, Levels: -1}, {Threads: 9, Slots: 65, Levels: 9, Gen: half}, {Threads: math.MaxInt, Slots: math.MaxInt, Levels: math.MaxInt, Gen: math.MaxUint64}, {Threads: math.MinInt, Slots: math.MinInt, Levels: math.MinInt}}
	for _, n := range []int{math.MinInt, math.MinInt + 1, -1<<32 + 2, -64, -1, 0, 9, 65, 1000, 1 << 31, 1<<32 + 2, math.MaxInt - 1, math.MaxInt} {
		l = append(l, api.Plan{Threads: n, Slots: 3, Levels: 4}, api.Plan{Threads: 2, Slots: n, Levels: 4}, api.Plan{Threads: 2, Slots: 3, Levels: n})
	}
	for _, gen := range []uint64{half, half + 1, 1 << 63, math.MaxUint64} {
		l = append(l, api.Plan{Threads: 2, Slots: 3, Levels: 4, Gen: gen})
	}
	return l
}

// allPlans are those that are right, and those that are not.
func allPlans() []api.Plan {
	return append(rightPlans(), wrongPlans()...)
}

// ref puts a reference together, without a mark.
func ref(gen uint64, index int) uint64 { return gen*half + 2*uint64(index) }

// genOf and indexOf tell the parts of a reference.
func genOf(r uint64) uint64 { return r / half }
func indexOf(r uint64) int  { return int(r % half / 2) }

// refs are the references of all edges of a plan, with and without the mark, and words that are some too.
func refs(p api.Plan) []uint64 {
	indices := []int{0, 1, 2, 63, 64, 65, 1 << 30, lastIndex - 1, lastIndex}
	for _, n := range []int{p.Slots / 2, p.Slots - 1, p.Slots, p.Slots + 1} {
		if n >= 0 && n <= lastIndex {
			indices = append(indices, n)
		}
	}
	l := slices.Clone(words)
	for _, gen := range gens {
		for _, index := range indices {
			l = append(l, ref(gen, index), ref(gen, index)+1)
		}
	}
	return l
}

// stateAt tells by chapter 8's sums where a slot's state stands.
func stateAt(p api.Plan, slot int) int {
	return 4 + 3*p.Threads + p.Levels + (slot-1)*(6+p.Levels)
}

// live and taken are the states of a generation by chapter 4's numbers.
func live(gen uint64) uint64  { return gen*half + 2 }
func taken(gen uint64) uint64 { return gen*half + 3 }

// swapOf is the one deed of a Claim of p and a reference.
func swapOf(p api.Plan, r uint64) api.Deed {
	return api.Deed{Kind: 3, At: stateAt(p, indexOf(r)), A: live(genOf(r)), B: taken(genOf(r))}
}

// founds are the words that may be found by a Claim of a generation: the one that it asks for, those of the generations beside it, of all kinds and of such as there are not, those of which one bit alone is another one, and the edges.
func founds(gen uint64) []uint64 {
	l := slices.Clone(words)
	for _, g := range []uint64{gen, gen + 1, gen - 1, gen + half/2, 0, lastGen} {
		for _, status := range []uint64{0, 1, 2, 3, 4, 5, 6, half/2 + 2, half - 1} {
			l = append(l, g*half+status)
		}
	}
	for bit := range 64 {
		l = append(l, live(gen)^1<<bit)
	}
	return l
}

// won asks whether a claimer tells again and again that it has won, or has not.
func won(t *testing.T, k *Claimer, want bool) {
	t.Helper()
	for range 2 {
		if got := k.Won(); got != want {
			t.Fatalf("it has won: %v", got)
		}
	}
}

// asks asks whether a claimer asks for d, again and again, and has not won.
func asks(t *testing.T, k *Claimer, d api.Deed) {
	t.Helper()
	won(t, k, false)
	for range 3 {
		if got, more := k.Next(); got != d || !more {
			t.Fatalf("%+v is asked for (%v), not %+v", got, more, d)
		}
		won(t, k, false)
	}
}

// ended asks whether a claimer is done, has won or not, and stays so whatever it is told: also the states that l tells.
func ended(t *testing.T, k *Claimer, want bool, l ...uint64) {
	t.Helper()
	for _, found := range append([]uint64{0, 1, 2, 3, half + 2, 3*half + 2, math.MaxUint64, 0}, l...) {
		won(t, k, want)
		if got, more := k.Next(); got != (api.Deed{}) || more {
			t.Fatalf("%+v is asked for (%v) by a task that is done", got, more)
		}
		won(t, k, want)
		k.Tell(found)
	}
	if got, more := k.Next(); got != (api.Deed{}) || more {
		t.Fatalf("a task that is done went on to %+v (%v)", got, more)
	}
	won(t, k, want)
}

// claims asks whether Claim of p and a reference asks for d, is done behind finding this, whatever it is told then, and has won or not.
func claims(t *testing.T, p api.Plan, r uint64, d api.Deed, found uint64, want bool) {
	t.Helper()
	k := Claim(p, r)
	asks(t, k, d)
	k.Tell(found)
	ended(t, k, want, found, d.A, d.A, d.B, d.A)
}

// made makes the memory at the beginning of a right plan.
func made(t *testing.T, p api.Plan) *cells.Cells {
	t.Helper()
	c, err := blank.Make(p)
	if err != api.OK {
		t.Fatalf("no memory of %+v: %d", p, err)
	}
	return c
}

// memory makes a memory of words.
func memory(t *testing.T, l []uint64) *cells.Cells {
	t.Helper()
	c, err := cells.Of(l)
	if err != api.OK {
		t.Fatal(err)
	}
	return c
}

// stands asks whether a memory has just these words.
func stands(t *testing.T, c *cells.Cells, l []uint64) {
	t.Helper()
	if got := c.Words(); !slices.Equal(got, l) {
		t.Fatalf("%v stand, not %v", got, l)
	}
}

// slow does the deed of a Claim of p and a reference to words, by the chapters' sentences; what was found, and whether it has won.
func slow(stand []uint64, p api.Plan, r uint64) (uint64, bool) {
	at := stateAt(p, indexOf(r))
	if at < 0 || at >= len(stand) {
		return 0, false
	}
	was := stand[at]
	if was != live(genOf(r)) {
		return was, false
	}
	stand[at] = taken(genOf(r))
	return was, true
}

// plays plays a claimer of p and a reference that has not begun, and asks whether it finds, turns and wins what the chapters' sentences say; whether it has won.
func plays(t *testing.T, c *cells.Cells, k *Claimer, p api.Plan, r uint64) bool {
	t.Helper()
	stand := c.Words()
	found, want := slow(stand, p, r)
	if l := task.Play(c, k, 9); !slices.Equal(l, []uint64{found}) {
		t.Fatalf("Claim of %+v and %d found %v, not %d", p, r, l, found)
	}
	ended(t, k, want, live(genOf(r)), taken(genOf(r)))
	stands(t, c, stand)
	return want
}

// 24.1: the chapter's example, in numbers, and done alone.
func TestExample(t *testing.T) {
	p := api.Plan{Threads: 1, Slots: 3, Levels: 1}
	const r = 12884901892 // 3 times 2^32, and 4: the generation 3, the slot 2
	d := api.Deed{Kind: 3, At: 15, A: 12884901890, B: 12884901891}
	claims(t, p, r, d, 12884901890, true)
	claims(t, p, r, d, 17179869186, false)
	if state.Text(d.A) != "3 live" || state.Text(d.B) != "3 taken" || state.Text(17179869186) != "4 live" || refer.Of(3, 2) != r {
		t.Fatalf("it is %s that becomes %s, of the reference %d", state.Text(d.A), state.Text(d.B), refer.Of(3, 2))
	}
	c := made(t, p)
	stand := c.Words()
	c.Store(15, 17179869186)
	stand[15] = 17179869186
	k := Claim(p, r)
	if l := task.Play(c, k, 99); !slices.Equal(l, []uint64{17179869186}) || k.Won() {
		t.Fatalf("%v was found, and it has won: %v", l, k.Won())
	}
	stands(t, c, stand)
	c.Store(15, 12884901890)
	k = Claim(p, r)
	if l := task.Play(c, k, 99); !slices.Equal(l, []uint64{12884901890}) || !k.Won() {
		t.Fatalf("%v was found, and it has won: %v", l, k.Won())
	}
	stand[15] = 12884901891
	stands(t, c, stand)
}

// 24.1: the deed in the names of api's, of layers 2, 4 and 8.
func TestDeedByName(t *testing.T) {
	for _, p := range rightPlans() {
		for slot := 1; slot <= p.Slots; slot++ {
			for _, gen := range gens {
				r := refer.Of(gen, slot)
				d := api.Deed{Kind: api.Swap, At: plan.State(p, slot), A: state.Of(gen, api.Live), B: state.Of(gen, api.Taken)}
				claims(t, p, r, d, state.Of(gen, api.Live), true)
				claims(t, p, refer.Mark(r), d, state.Of(gen, api.Live), true)
				for _, status := range []int{api.Free, api.Making, api.Taken, api.Gone} {
					claims(t, p, r, d, state.Of(gen, status), false)
				}
			}
		}
	}
}

// 24.1: in numbers, of the edges of generations, indexes and plans, with and without the mark.
func TestInNumbers(t *testing.T) {
	for _, x := range []struct {
		plan api.Plan
		ref  uint64
		at   int
		a, b uint64
	}{
		{small, 2, 14, 2, 3},
		{small, 3, 14, 2, 3},
		{small, 4, 24, 2, 3},
		{small, 7, 34, 2, 3},
		{small, 4294967302, 34, 4294967298, 4294967299},
		{small, 18446744069414584322, 14, 18446744069414584322, 18446744069414584323},
		{small, 18446744069414584325, 24, 18446744069414584322, 18446744069414584323},
		{small, 18446744065119617028, 24, 18446744065119617026, 18446744065119617027},
		// The index 0, one behind the last slot, and the greatest one.
		{small, 0, 4, 2, 3},
		{small, 1, 4, 2, 3},
		{small, 21474836480, 4, 21474836482, 21474836483},
		{small, 8, 44, 2, 3},
		{small, 9, 44, 2, 3},
		{small, 4294967294, 21474836474, 2, 3},
		{small, 18446744073709551615, 21474836474, 18446744069414584322, 18446744069414584323},
		// One slot, and the most there are.
		{api.Plan{Threads: 1, Slots: 1, Levels: 1}, 2, 8, 2, 3},
		{api.Plan{Threads: 8, Slots: 64, Levels: 8, Gen: lastGen}, 128, 918, 2, 3},
		{api.Plan{Threads: 8, Slots: 64, Levels: 8}, 130, 932, 2, 3},
		// No level, nothing at all, and numbers below 0.
		{api.Plan{Threads: 2, Slots: 3}, 4, 16, 2, 3},
		{api.Plan{}, 2, 4, 2, 3},
		{api.Plan{}, 0, -2, 2, 3},
		{api.Plan{}, 6, 16, 2, 3},
		{api.Plan{Threads: -1, Slots: -1, Levels: -1}, 2, 0, 2, 3},
		{api.Plan{Threads: 2, Slots: 3, Levels: -7}, 6, 1, 2, 3},
		{api.Plan{Threads: 2, Slots: math.MinInt, Levels: 4}, 4, 24, 2, 3},
		{api.Plan{Threads: math.MinInt, Slots: 3, Levels: math.MinInt}, 2, 4, 2, 3},
		{api.Plan{Threads: math.MinInt, Slots: 3, Levels: 4}, 2, -9223372036854775800, 2, 3},
		{api.Plan{Threads: 2, Slots: 3, Levels: math.MinInt}, 2, -9223372036854775798, 2, 3},
		{api.Plan{Threads: 2, Slots: 3, Levels: math.MinInt}, 4, 16, 2, 3},
		{api.Plan{Threads: 2, Slots: 3, Levels: math.MaxInt}, 4, 14, 2, 3},
		{api.Plan{Threads: 2, Slots: 3, Levels: 4, Gen: math.MaxUint64}, 4, 24, 2, 3},
	} {
		d := api.Deed{Kind: 3, At: x.at, A: x.a, B: x.b}
		claims(t, x.plan, x.ref, d, x.a, true)
		claims(t, x.plan, x.ref, d, x.b, false)
		claims(t, x.plan, x.ref, d, 0, false)
	}
}

// 24.1: of all plans and references of the edges, whatever of a few words is found.
func TestAllEdges(t *testing.T) {
	for _, p := range allPlans() {
		for i, r := range refs(p) {
			d := swapOf(p, r)
			claims(t, p, r, d, d.A, true)
			for _, found := range []uint64{d.B, d.A + half, d.A - half, d.A - 1, d.A - 2, d.A + 2, words[i%len(words)], math.MaxUint64, 0} {
				claims(t, p, r, d, found, found == d.A)
			}
		}
	}
}

// 24.1: whatever is found it is done behind that, and has won just if that is its own generation, live: each bit counts.
func TestWhateverIsFound(t *testing.T) {
	for _, gen := range append([]uint64{5, 6, 7, 1 << 16, 1<<32 - 5}, gens...) {
		for _, r := range []uint64{ref(gen, 0), ref(gen, 1), ref(gen, 2) + 1, ref(gen, 3), ref(gen, 4), ref(gen, lastIndex) + 1} {
			wins := 0
			for _, found := range founds(gen) {
				claims(t, small, r, swapOf(small, r), found, found == live(gen))
				if found == live(gen) {
					wins++
				}
			}
			if wins == 0 {
				t.Fatalf("the generation %d never wins", gen)
			}
		}
	}
}

// 24.1: of each generation near the edges, and of each bit of one, just that one wins, neither one above it nor one below.
func TestGenerations(t *testing.T) {
	var near []uint64
	for bit := range 32 {
		near = append(near, 1<<bit, 1<<bit-1, lastGen^1<<bit)
	}
	for n := range uint64(500) {
		near = append(near, n, lastGen-n)
	}
	for _, gen := range near {
		d := api.Deed{Kind: 3, At: 24, A: gen*half + 2, B: gen*half + 3}
		claims(t, small, ref(gen, 2), d, gen*half+2, true)
		claims(t, small, ref(gen, 2), d, (gen+1)*half+2, false)
		claims(t, small, ref(gen, 2), d, (gen-1)*half+2, false)
	}
}

// 24.1: each slot's state has its own place; the mark and the generation, the plan's one too, have no part in it.
func TestPlaces(t *testing.T) {
	for _, p := range rightPlans() {
		seen := map[int]bool{}
		for slot := 1; slot <= p.Slots; slot++ {
			at := 0
			for _, gen := range gens {
				for _, r := range []uint64{ref(gen, slot), ref(gen, slot) + 1} {
					for _, of := range gens {
						p.Gen = of
						d, _ := Claim(p, r).Next()
						if at != 0 && d.At != at {
							t.Fatalf("the slot %d of %+v is at %d and at %d", slot, p, d.At, at)
						}
						at = d.At
					}
				}
			}
			if seen[at] || at < 8 || at >= plan.Words(p) {
				t.Fatalf("the slot %d of %+v is at %d", slot, p, at)
			}
			seen[at] = true
		}
	}
}

// anyRef is a reference of chance, of an edge, with a mark or without, or any word.
func anyRef(r *rand.Rand) uint64 {
	switch r.Intn(4) {
	case 0:
		return r.Uint64()
	case 1:
		return words[r.Intn(len(words))]
	}
	return ref([]uint64{0, 1, uint64(r.Uint32()), lastGen}[r.Intn(4)], r.Intn(70)) + uint64(r.Intn(2))
}

// anyPlan is a plan of chance, of which a number may be any.
func anyPlan(r *rand.Rand) api.Plan {
	n := func(most int) int {
		if r.Intn(8) == 0 {
			return int(r.Uint64())
		}
		return r.Intn(most+4) - 2
	}
	return api.Plan{Threads: n(8), Slots: n(64), Levels: n(8), Gen: r.Uint64()}
}

// 24.1: words, references and plans of chance.
func TestWordsOfChance(t *testing.T) {
	r := rand.New(rand.NewSource(24))
	for range 30000 {
		p, of := anyPlan(r), anyRef(r)
		d := swapOf(p, of)
		found := []uint64{r.Uint64(), live(genOf(of)), taken(genOf(of)), live(uint64(r.Uint32())), genOf(of)*half + uint64(r.Uint32())}[r.Intn(5)]
		claims(t, p, of, d, found, found == d.A)
	}
}

// 24.1: Won ahead of the first Next, behind it, ahead of what was found, and behind it.
func TestWonAtEachMoment(t *testing.T) {
	r := ref(3, 2)
	for _, found := range founds(3) {
		k := Claim(small, r)
		for range 5 {
			won(t, k, false)
		}
		if _, more := k.Next(); !more {
			t.Fatal("nothing is asked for")
		}
		won(t, k, false)
		k.Tell(found)
		won(t, k, found == live(3))
		if _, more := k.Next(); more {
			t.Fatal("it goes on")
		}
		won(t, k, found == live(3))
		// Without any Next and any Won ahead.
		k = Claim(small, r)
		k.Tell(found)
		won(t, k, found == live(3))
	}
}

// 24.1: asking changes nothing, however often.
func TestAskingChangesNothing(t *testing.T) {
	for _, p := range []api.Plan{small, {}, {Threads: math.MinInt, Slots: -1, Levels: math.MaxInt}} {
		for _, found := range []uint64{live(3), live(4), 0} {
			k := Claim(p, ref(3, 2))
			for range 300 {
				asks(t, k, swapOf(p, ref(3, 2)))
			}
			k.Tell(found)
			for range 300 {
				ended(t, k, found == live(3), live(3))
			}
		}
	}
}

// 24.1: a claimer is told ahead of being asked, and is done all the same.
func TestTellAheadOfNext(t *testing.T) {
	for _, p := range allPlans() {
		for _, r := range []uint64{0, 1, ref(0, 1), ref(7, p.Slots&3) + 1, ref(lastGen, 2), math.MaxUint64} {
			for _, found := range founds(genOf(r)) {
				k := Claim(p, r)
				k.Tell(found)
				ended(t, k, found == live(genOf(r)), live(genOf(r)), taken(genOf(r)), live(genOf(r)))
			}
		}
	}
}

// 24.1: what a claimer is told behind its end counts for nothing: the very state that would have won neither, again and again, nor another one for one that has won.
func TestTellBehindTheEnd(t *testing.T) {
	r := ref(3, 2)
	for _, first := range founds(3) {
		for _, second := range founds(3) {
			k := Claim(small, r)
			k.Tell(first)
			for range 3 {
				k.Tell(second)
				won(t, k, first == live(3))
			}
			if d, more := k.Next(); d != (api.Deed{}) || more {
				t.Fatalf("told %d, then %d, it goes on to %+v", first, second, d)
			}
		}
	}
}

// 24.1 and R7: a claimer that is nil, or that no call made, is done, stays so, has not won, and does nothing.
func TestTasksThatNoCallMade(t *testing.T) {
	var none *Claimer
	for _, k := range []*Claimer{none, {}, new(Claimer)} {
		ended(t, k, false)
		for _, found := range append(founds(0), founds(3)...) {
			k.Tell(found)
			won(t, k, false)
		}
		ended(t, k, false, live(0), live(0), taken(0))
	}
	for _, k := range []*Claimer{none, {}, new(Claimer)} {
		k.Tell(live(0))
		won(t, k, false)
		// All slots are live, of the generation 0.
		c := made(t, small)
		for slot := 1; slot <= 3; slot++ {
			c.Store(stateAt(small, slot), live(0))
		}
		was := c.Words()
		if l := task.Play(c, k, 9); len(l) != 0 {
			t.Errorf("%v was found", l)
		}
		stands(t, c, was)
		ended(t, k, false, live(0))
	}
}

// 24.1: each claimer goes its own way, of the same reference and of others.
func TestTasksAreApart(t *testing.T) {
	x, y, z := Claim(small, ref(3, 2)), Claim(small, ref(3, 2)), Claim(small, ref(4, 3))
	asks(t, x, swapOf(small, ref(3, 2)))
	asks(t, y, swapOf(small, ref(3, 2)))
	asks(t, z, swapOf(small, ref(4, 3)))
	x.Tell(live(3))
	won(t, x, true)
	asks(t, y, swapOf(small, ref(3, 2)))
	asks(t, z, swapOf(small, ref(4, 3)))
	y.Tell(taken(3))
	ended(t, y, false, live(3))
	asks(t, z, swapOf(small, ref(4, 3)))
	z.Tell(live(4))
	ended(t, x, true)
	ended(t, y, false, live(3))
	ended(t, z, true)
}

// 24.1: where there is no memory 0 is found, so nobody wins.
func TestNoMemory(t *testing.T) {
	for _, c := range []*cells.Cells{nil, new(cells.Cells)} {
		for _, p := range allPlans() {
			for _, r := range refs(p) {
				k := Claim(p, r)
				if l := task.Play(c, k, 9); !slices.Equal(l, []uint64{0}) {
					t.Fatalf("%v was found of no memory", l)
				}
				ended(t, k, false)
			}
		}
	}
}

// 24.1: of plans that are not right, of references of no slot, and of memories of any words, the word that there is turns as the step says, wherever the sums put it.
func TestAnyMemory(t *testing.T) {
	r := rand.New(rand.NewSource(241))
	wins := 0
	for _, p := range allPlans() {
		for range 100 {
			stand := make([]uint64, r.Intn(120))
			for at := range stand {
				stand[at] = uint64(r.Intn(3))*half + uint64(r.Intn(5))
			}
			of := ref(uint64(r.Intn(3)), r.Intn(6)) + uint64(r.Intn(2))
			if plays(t, memory(t, stand), Claim(p, of), p, of) {
				wins++
			}
		}
	}
	if wins < 100 {
		t.Errorf("%d have won only", wins)
	}
}

// 24.2: alone, of each slot of right plans, whatever its state is: it is taken just if it is live, of the reference's generation, and no other word is turned.
func TestAlone(t *testing.T) {
	r := rand.New(rand.NewSource(242))
	for _, p := range rightPlans() {
		for _, slot := range []int{1, 1 + p.Slots/2, p.Slots} {
			for _, gen := range gens {
				for _, found := range founds(gen)[len(words):] {
					stand := made(t, p).Words()
					for at := range stand {
						// All others are such as could be taken.
						stand[at] = live(gen)
					}
					stand[stateAt(p, slot)] = found
					of := ref(gen, slot) + uint64(r.Intn(2))
					if got := plays(t, memory(t, stand), Claim(p, of), p, of); got != (found == live(gen)) {
						t.Fatalf("the state %d of the generation %d: it has won: %v", found, gen, got)
					}
				}
			}
		}
	}
}

// 24.2: of two slots, in all states of three generations, each of them, by each reference of these: just the live one of that generation is taken.
func TestAllStates(t *testing.T) {
	p := api.Plan{Threads: 1, Slots: 2, Levels: 1}
	for one := range 18 {
		for two := range 18 {
			for gen := range uint64(3) {
				for slot := range 4 {
					c := made(t, p)
					c.Store(stateAt(p, 1), uint64(one/6)*half+uint64(one%6))
					c.Store(stateAt(p, 2), uint64(two/6)*half+uint64(two%6))
					mine := []int{-1, one, two, -1}[slot]
					got := plays(t, c, Claim(p, ref(gen, slot)), p, ref(gen, slot))
					if want := mine == int(gen)*6+2; got != want {
						t.Fatalf("of %d and %d the slot %d of the generation %d is taken: %v", one, two, slot, gen, got)
					}
				}
			}
		}
	}
}

// 24.2: of many who try to take one timer, one behind the other, the first one takes it, and nobody behind that.
func TestOneBehindTheOther(t *testing.T) {
	for _, p := range rightPlans() {
		for _, gen := range gens {
			c := made(t, p)
			stand := c.Words()
			stand[stateAt(p, p.Slots)] = live(gen)
			c.Store(stateAt(p, p.Slots), live(gen))
			for n := range 9 {
				if got := plays(t, c, Claim(p, ref(gen, p.Slots)), p, ref(gen, p.Slots)); got != (n == 0) {
					t.Fatalf("the one behind %d has won: %v", n, got)
				}
			}
			stand[stateAt(p, p.Slots)] = taken(gen)
			stands(t, c, stand)
		}
	}
}

// orders tells all orders of the numbers below n.
func orders(n int) [][]int {
	if n == 0 {
		return [][]int{nil}
	}
	var l [][]int
	for _, order := range orders(n - 1) {
		for at := range n {
			l = append(l, slices.Insert(slices.Clone(order), at, n-1))
		}
	}
	return l
}

// 24.2: three who try to take one timer, two of another one, and two of generations that these have not, all of them asked ahead of the first step, in all orders: the first one of each timer takes it, and nobody else takes anything.
func TestInAllOrders(t *testing.T) {
	p := api.Plan{Threads: 1, Slots: 2, Levels: 1}
	all := []uint64{ref(3, 1), ref(3, 1) + 1, ref(3, 1), ref(4, 2), ref(4, 2), ref(2, 1), ref(5, 2)}
	for _, order := range orders(len(all)) {
		c := made(t, p)
		stand := c.Words()
		stand[8], stand[15] = live(3), live(4)
		c.Store(8, live(3))
		c.Store(15, live(4))
		var now []*Claimer
		for _, r := range all {
			k := Claim(p, r)
			k.Next()
			now = append(now, k)
		}
		var took [3]int
		for _, i := range order {
			first := i < 5 && took[indexOf(all[i])] == 0
			if len(task.Play(c, now[i], 1)) != 1 || now[i].Won() != first {
				t.Fatalf("%d has won: %v, in the order %v", i, now[i].Won(), order)
			}
			if first {
				took[indexOf(all[i])]++
				stand[stateAt(p, indexOf(all[i]))]++
			}
			for at, w := range stand {
				if c.Load(at) != w {
					t.Fatalf("%d stands at %d behind %d, in the order %v", c.Load(at), at, i, order)
				}
			}
			for _, k := range order[slices.Index(order, i)+1:] {
				if now[k].Won() {
					t.Fatalf("%d has won ahead of its step, in the order %v", k, order)
				}
			}
		}
		if took != [3]int{0, 1, 1} {
			t.Fatalf("%v were taken, in the order %v", took, order)
		}
	}
}

// life is a slot's: who makes timers in it hands it back as soon as one is taken, and makes the next one.
type life struct {
	flow  task.Flow
	gen   uint64 // of its timer, as long as there is one
	slot  int
	lives bool // whether that can be taken
}

// start makes the next timer in a free slot, if there is one: of the last generation a slot is gone behind its timer.
func (o *life) start(p api.Plan) {
	k := pool.Pop(p)
	o.flow.To(k, func() {
		if k.Index() == 0 {
			return
		}
		o.slot = k.Index()
		m := mint.Mint(p, o.slot, 5, 1)
		o.flow.To(m, func() {
			o.gen = genOf(m.Ref())
			living := api.Deed{Kind: 2, At: stateAt(p, o.slot), A: live(o.gen)}
			o.flow.To(task.NewScript([]api.Deed{living}), func() { o.lives = true })
		})
	})
}

// end hands the slot back, and makes the next timer behind that.
func (o *life) end(p api.Plan) {
	o.lives = false
	o.flow.To(give.Give(p, ref(o.gen, o.slot)), func() { o.start(p) })
}

// hunter is somebody who tries to take a timer.
type hunter struct {
	fast *Claimer
	ref  uint64
}

// shot lets a hunter try, and asks whether it wins just if its timer lives, and turns no word but the state of that one, if it does; whether it does.
func (g hunter) shot(t *testing.T, c *cells.Cells, p api.Plan, all []*life) *life {
	t.Helper()
	var own *life
	for _, o := range all {
		if o.lives && o.gen == genOf(g.ref) && o.slot == indexOf(g.ref) {
			own = o
		}
	}
	if got := plays(t, c, g.fast, p, g.ref); got != (own != nil) {
		t.Fatalf("the timer of %d is taken: %v", g.ref, got)
	}
	return own
}

// 24.2: many who try by turns to take timers that are made, taken, and of which the slots are handed back and used again meanwhile, each of them having been asked for its deed long ago: each timer is taken by one at most, and only while it lives; nobody takes one of another generation.
func TestInTurns(t *testing.T) {
	r := rand.New(rand.NewSource(243))
	wins, late, early := 0, 0, 0
	for _, p := range rightPlans() {
		c, took := made(t, p), map[uint64]int{}
		all := make([]*life, min(p.Slots, 6))
		for i := range all {
			all[i] = &life{}
			all[i].start(p)
		}
		var now []hunter
		for range 1500 {
			o := all[r.Intn(len(all))]
			if r.Intn(3) > 0 {
				task.Play(c, &o.flow, 1)
				continue
			}
			if len(now) < 12 {
				// One of the timer's generation, mostly; of one ahead of it, or of one behind it.
				of := ref((o.gen+[]uint64{0, 0, 0, 1, lastGen}[r.Intn(5)])%half, o.slot) + uint64(r.Intn(2))
				g := hunter{Claim(p, of), of}
				asks(t, g.fast, swapOf(p, of))
				now = append(now, g)
				continue
			}
			i := r.Intn(len(now))
			g := now[i]
			now = slices.Delete(now, i, i+1)
			if own := g.shot(t, c, p, all); own != nil {
				wins++
				took[g.ref&^1]++
				own.end(p)
			} else if took[g.ref&^1] > 0 {
				late++
			} else {
				early++
			}
		}
		for of, n := range took {
			if n != 1 {
				t.Fatalf("the timer of %d was taken %d times", of, n)
			}
		}
	}
	if wins < 1000 || late < 1000 || early < 1000 {
		t.Errorf("%d were taken, %d had been taken ahead, and %d were not live", wins, late, early)
	}
}
