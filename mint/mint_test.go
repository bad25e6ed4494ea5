package mint

import (
	"math"
	"math/bits"
	"math/rand"
	"slices"
	"testing"

	"sundial/api"
	"sundial/blank"
	"sundial/cells"
	"sundial/give"
	"sundial/plan"
	"sundial/pool"
	"sundial/refer"
	"sundial/state"
	"sundial/task"
)

// half is how often a lower half goes into a word: a word is its high half times half, and its low half.
const half = 4294967296

// lastGen and lastIndex are the greatest generation and index that a reference has.
const (
	lastGen   = 4294967295
	lastIndex = 2147483647
)

// gens are the edges of a generation.
var gens = []uint64{0, 1, 2, 3, 77, 1<<31 - 1, 1 << 31, lastGen - 1, lastGen}

// words are the edges of a word.
var words = []uint64{0, 1, 2, 3, 4, 5, 7, 64, 1<<31 - 1, 1 << 31, half - 1, half, half + 1, 3*half + 2, 1<<63 - 1, 1 << 63, 1<<63 + 1, lastGen * half, lastGen*half + 3, math.MaxUint64 - 1, math.MaxUint64}

// deadlines and talls are their edges.
var (
	deadlines = []int{math.MinInt, math.MinInt + 1, -api.Never, -api.MaxTime, -1 << 32, -2, -1, 0, 1, 2, 50, 1 << 32, api.MaxTime, api.Never, math.MaxInt - 1, math.MaxInt}
	talls     = []int{math.MinInt, -1 << 32, -8, -1, 0, 1, 2, 4, 7, 8, 9, 64, 1 << 32, 1<<32 + 1, math.MaxInt}
)

// small is a plan of which the slots' words State are at 8, 15 and 22, and Dead, Seq, Tall and Hold behind each of them.
var small = api.Plan{Threads: 1, Slots: 3, Levels: 1, Gen: 3}

// rightPlans are such of which each number is the least, one between, or the greatest.
func rightPlans() []api.Plan {
	var l []api.Plan
	for _, threads := range []int{1, 3, 8} {
		for _, slots := range []int{1, 2, 5, 64} {
			for _, levels := range []int{1, 4, 8} {
				l = append(l, api.Plan{Threads: threads, Slots: slots, Levels: levels, Gen: gens[len(l)%len(gens)]})
			}
		}
	}
	return l
}

// wrongPlans are those of which one number alone is none that there is, and those of which several are.
func wrongPlans() []api.Plan {
	l := []api.Plan{{}, {Threads: -1, Slots: -1, Levels: -1}, {Threads: 9, Slots: 65, Levels: 9, Gen: half}, {Threads: math.MaxInt, Slots: math.MaxInt, Levels: math.MaxInt, Gen: math.MaxUint64}, {Threads: math.MinInt, Slots: math.MinInt, Levels: math.MinInt}}
	for _, n := range []int{math.MinInt, math.MinInt + 1, -1<<32 + 2, -64, -1, 0, 9, 65, 1000, 1 << 31, 1<<32 + 2, math.MaxInt - 1, math.MaxInt} {
		l = append(l, api.Plan{Threads: n, Slots: 3, Levels: 3}, api.Plan{Threads: 2, Slots: n, Levels: 3}, api.Plan{Threads: 2, Slots: 3, Levels: n})
	}
	for _, gen := range []uint64{half, half + 1, 1 << 63, math.MaxUint64} {
		l = append(l, api.Plan{Threads: 2, Slots: 3, Levels: 3, Gen: gen})
	}
	return l
}

// allPlans are those that are right, and those that are not.
func allPlans() []api.Plan {
	return append(rightPlans(), wrongPlans()...)
}

// indices are the edges of an index in a plan.
func indices(p api.Plan) []int {
	return []int{1, p.Slots / 2, p.Slots - 1, p.Slots, p.Slots + 1, 0, -1, -2, -64, -half, 2, 63, 64, 65, 4096, lastIndex - 1, lastIndex, lastIndex + 1, lastIndex + 2, half - 1, half, half + 1, math.MinInt, math.MinInt + 1, math.MaxInt - 1, math.MaxInt}
}

// ref puts a reference together; 0, of an index that none has.
func ref(gen uint64, index int) uint64 {
	if index < 1 || index > lastIndex {
		return 0
	}
	return gen*half + 2*uint64(index)
}

// stateAt tells where a slot's words begin, of which its state is the first one, by chapter 8's sums.
func stateAt(p api.Plan, slot int) int {
	return 4 + 3*p.Threads + p.Levels + (slot-1)*(6+p.Levels)
}

// word is a number as a word.
func word(n int) uint64 { return uint64(n) }

// Deeds by their kinds, for short.
func load(at int) api.Deed                { return api.Deed{Kind: 1, At: at} }
func store(at int, w, by uint64) api.Deed { return api.Deed{Kind: 2, At: at, A: w, By: by} }
func add(at int, w uint64) api.Deed       { return api.Deed{Kind: 4, At: at, A: w} }

// job is what Mint is asked.
type job struct {
	plan                  api.Plan
	index, deadline, tall int
}

// mint makes the minter of a job.
func (j job) mint() *Minter { return Mint(j.plan, j.index, j.deadline, j.tall) }

// tale tells by the chapter's sentences which deeds a job has, and its timer, if it finds the state and the number s.
func (j job) tale(found, s uint64) (asked []api.Deed, r uint64, key api.Key) {
	gen, at := found/half, stateAt(j.plan, j.index)
	r = ref(gen, j.index)
	asked = []api.Deed{
		load(at),
		store(at, gen*half+1, 0),
		add(2, 1),
		store(at+1, word(j.deadline), r),
		store(at+2, s, r),
		store(at+3, word(j.tall), r),
		store(at+4, 2, r),
	}
	return asked, r, api.Key{Deadline: j.deadline, Seq: s}
}

// slow does a deed of chapter 7 to words, and tells what was found.
func slow(stand []uint64, d api.Deed) uint64 {
	if d.At < 0 || d.At >= len(stand) {
		return 0
	}
	was := stand[d.At]
	switch d.Kind {
	case 2:
		stand[d.At] = d.A
	case 4:
		stand[d.At] += d.A
	}
	return was
}

// tells asks whether a minter tells this timer, again and again.
func tells(t *testing.T, k *Minter, r uint64, key api.Key) {
	t.Helper()
	for range 2 {
		if x, y := k.Ref(), k.Key(); x != r || y != key {
			t.Fatalf("%d and %+v are told, not %d and %+v", x, y, r, key)
		}
	}
}

// asks asks whether a minter asks for d, and tells no timer, again and again.
func asks(t *testing.T, k *Minter, d api.Deed) {
	t.Helper()
	for range 3 {
		tells(t, k, 0, api.Key{})
		if got, more := k.Next(); got != d || !more {
			t.Fatalf("%+v is asked for (%v), not %+v", got, more, d)
		}
	}
	tells(t, k, 0, api.Key{})
}

// ended asks whether a minter is done, tells this timer, and stays so whatever it is told.
func ended(t *testing.T, k *Minter, r uint64, key api.Key) {
	t.Helper()
	for _, found := range []uint64{0, 1, 7, half + 1, 9*half + 3, math.MaxUint64, 0, 0} {
		if got, more := k.Next(); got != (api.Deed{}) || more {
			t.Fatalf("%+v is asked for (%v) by a task that is done", got, more)
		}
		tells(t, k, r, key)
		k.Tell(found)
	}
	if got, more := k.Next(); got != (api.Deed{}) || more {
		t.Fatalf("a task that is done went on to %+v (%v)", got, more)
	}
	tells(t, k, r, key)
}

// step is a deed that is asked for, and what is told then.
type step struct {
	asked api.Deed
	found uint64
}

// mints asks whether a job asks for the deeds of l, and tells this timer then, and no sooner.
func mints(t *testing.T, j job, r uint64, key api.Key, l ...step) {
	t.Helper()
	k := j.mint()
	for _, s := range l {
		asks(t, k, s.asked)
		k.Tell(s.found)
	}
	ended(t, k, r, key)
}

// mintsAs asks whether a job, told these seven words, does what the chapter's sentences say.
func mintsAs(t *testing.T, j job, l [7]uint64) {
	t.Helper()
	asked, r, key := j.tale(l[0], l[2])
	k := j.mint()
	for i, d := range asked {
		if got, more := k.Next(); got != d || !more {
			t.Fatalf("Mint of %+v, told %v, asks for %+v (%v) at %d, not %+v", j, l, got, more, i, d)
		}
		if x, y := k.Ref(), k.Key(); x != 0 || y != (api.Key{}) {
			t.Fatalf("Mint of %+v, told %v, tells %d and %+v at %d", j, l, x, y, i)
		}
		k.Tell(l[i])
	}
	if got, more := k.Next(); more || got != (api.Deed{}) {
		t.Fatalf("Mint of %+v, told %v, asks for %+v (%v) at its end", j, l, got, more)
	}
	if x, y := k.Ref(), k.Key(); x != r || y != key {
		t.Fatalf("Mint of %+v, told %v, tells %d and %+v, not %d and %+v", j, l, x, y, r, key)
	}
}

// made makes the memory at the beginning of a right plan.
func made(t *testing.T, p api.Plan) *cells.Cells {
	t.Helper()
	c, err := blank.Make(p)
	if err != api.OK {
		t.Fatalf("no memory of %+v: %d", p, err)
	}
	return c
}

// memory makes a memory of words.
func memory(t *testing.T, l []uint64) *cells.Cells {
	t.Helper()
	c, err := cells.Of(l)
	if err != api.OK {
		t.Fatal(err)
	}
	return c
}

// stands asks whether a memory has just these words.
func stands(t *testing.T, c *cells.Cells, l []uint64) {
	t.Helper()
	if got := c.Words(); !slices.Equal(got, l) {
		t.Fatalf("%v stand, not %v", got, l)
	}
}

// alone does a job alone to a memory, and asks whether it finds and turns just the words that the chapter's sentences say, and tells its timer.
func alone(t *testing.T, c *cells.Cells, j job) {
	t.Helper()
	stand := c.Words()
	var told [7]uint64
	for i := range told {
		// Each deed is told behind what was found ahead of it: of a plan that is not right two words may be at one place.
		asked, _, _ := j.tale(told[0], told[2])
		told[i] = slow(stand, asked[i])
	}
	_, r, key := j.tale(told[0], told[2])
	k := j.mint()
	if got := task.Play(c, k, 99); !slices.Equal(got, told[:]) {
		t.Fatalf("Mint of %+v found %v, not %v", j, got, told)
	}
	ended(t, k, r, key)
	stands(t, c, stand)
}

// 19.1: the chapter's example, in numbers and done alone.
func TestExample(t *testing.T) {
	const r = 12884901892 // 3 times 2^32, and 4: the generation 3, the slot 2
	mints(t, job{small, 2, 50, 4}, r, api.Key{Deadline: 50, Seq: 7},
		step{load(15), 12884901888},
		step{store(15, 12884901889, 0), 12884901888},
		step{add(2, 1), 7},
		step{store(16, 50, r), 0},
		step{store(17, 7, r), 0},
		step{store(18, 4, r), 0},
		step{store(19, 2, r), 0})
	if refer.Of(3, 2) != r || state.Text(12884901889) != "3 making" {
		t.Fatalf("it is %d, of the state %s", refer.Of(3, 2), state.Text(12884901889))
	}
	for _, p := range rightPlans() {
		if p.Slots < 2 {
			continue
		}
		p.Gen = 3
		c := made(t, p)
		c.Store(2, 7)
		k := Mint(p, 2, 50, 4)
		if l := task.Play(c, k, 99); !slices.Equal(l, []uint64{12884901888, 12884901888, 7, 0, 0, 0, 0}) {
			t.Fatalf("%v was found", l)
		}
		ended(t, k, r, api.Key{Deadline: 50, Seq: 7})
		at := stateAt(p, 2)
		if l := c.Words()[at : at+5]; !slices.Equal(l, []uint64{12884901889, 50, 7, 4, 2}) || c.Load(2) != 8 {
			t.Fatalf("%v stand, and the serial is %d", l, c.Load(2))
		}
	}
}

// 19.1: each deed in the names of api's and of the lower layers.
func TestDeedsByName(t *testing.T) {
	for _, p := range rightPlans() {
		for _, slot := range []int{1, p.Slots} {
			r := refer.Of(5, slot)
			mints(t, job{p, slot, 60, 3}, r, api.Key{Deadline: 60, Seq: 8},
				step{api.Deed{Kind: api.Load, At: plan.State(p, slot)}, state.Of(5, api.Free)},
				step{api.Deed{Kind: api.Store, At: plan.State(p, slot), A: state.Of(5, api.Making)}, 0},
				step{api.Deed{Kind: api.Add, At: api.AtSerial, A: 1}, 8},
				step{api.Deed{Kind: api.Store, At: plan.Dead(p, slot), A: 60, By: r}, 0},
				step{api.Deed{Kind: api.Store, At: plan.Seq(p, slot), A: 8, By: r}, 0},
				step{api.Deed{Kind: api.Store, At: plan.Tall(p, slot), A: 3, By: r}, 0},
				step{api.Deed{Kind: api.Store, At: plan.Hold(p, slot), A: 2, By: r}, 0})
		}
	}
}

// 19.1: in numbers, of the first and the last slot of the least and the greatest plan.
func TestInNumbers(t *testing.T) {
	mints(t, job{api.Plan{Threads: 1, Slots: 1, Levels: 1}, 1, 1, 1}, 2, api.Key{Deadline: 1, Seq: 0},
		step{load(8), 0}, step{store(8, 1, 0), 0}, step{add(2, 1), 0},
		step{store(9, 1, 2), 0}, step{store(10, 0, 2), 0}, step{store(11, 1, 2), 0}, step{store(12, 2, 2), 0})
	big := api.Plan{Threads: 8, Slots: 64, Levels: 8, Gen: lastGen}
	mints(t, job{big, 1, 0, 8}, 18446744069414584322, api.Key{Deadline: 0, Seq: 18446744073709551615},
		step{load(36), 18446744069414584320}, step{store(36, 18446744069414584321, 0), 5}, step{add(2, 1), 18446744073709551615},
		step{store(37, 0, 18446744069414584322), 1}, step{store(38, 18446744073709551615, 18446744069414584322), 2}, step{store(39, 8, 18446744069414584322), 3}, step{store(40, 2, 18446744069414584322), 4})
	mints(t, job{big, 64, 1152921504606846976, 1}, 18446744069414584448, api.Key{Deadline: 1152921504606846976, Seq: 4294967296},
		step{load(918), 18446744069414584323}, step{store(918, 18446744069414584321, 0), 5}, step{add(2, 1), 4294967296},
		step{store(919, 1152921504606846976, 18446744069414584448), 1}, step{store(920, 4294967296, 18446744069414584448), 2}, step{store(921, 1, 18446744069414584448), 3}, step{store(922, 2, 18446744069414584448), 4})
}

// 19.1: numbers below 0, and the greatest ones, are stored as the words that they are, and the key has the deadline itself.
func TestNumbersAsWords(t *testing.T) {
	as := map[int]uint64{
		-1:                   18446744073709551615,
		-2:                   18446744073709551614,
		-4294967296:          18446744069414584320,
		-1152921504606846977: 17293822569102704639,
		-9223372036854775807: 9223372036854775809,
		-9223372036854775808: 9223372036854775808,
		0:                    0,
		8:                    8,
		4294967297:           4294967297,
		1152921504606846977:  1152921504606846977,
		9223372036854775807:  9223372036854775807,
	}
	for deadline, d := range as {
		for tall, h := range as {
			mints(t, job{small, 3, deadline, tall}, 6*half+6, api.Key{Deadline: deadline, Seq: 9},
				step{load(22), 6 * half}, step{store(22, 6*half+1, 0), 6 * half}, step{add(2, 1), 9},
				step{store(23, d, 6*half+6), 0}, step{store(24, 9, 6*half+6), 0}, step{store(25, h, 6*half+6), 0}, step{store(26, 2, 6*half+6), 0})
		}
	}
}

// 19.1: an index of no slot goes the same steps, at the places of chapter 8's sums; of none that a reference has they are By 0, and 0 is the reference, but the key is told.
func TestIndexesOfNoSlot(t *testing.T) {
	at := map[int][]uint64{
		0:                    {1, 0},
		-1:                   {18446744073709551610, 0}, // as a place: -6
		4:                    {29, 4*half + 8},
		65:                   {456, 4*half + 130},
		lastIndex:            {15032385530, 4*half + 4294967294},
		lastIndex + 1:        {15032385537, 0},
		4294967297:           {30064771080, 0},
		9223372036854775807:  {9223372036854775802, 0},
		-9223372036854775808: {9223372036854775809, 0},
	}
	for index, want := range at {
		s, r := int(want[0]), want[1]
		mints(t, job{small, index, 11, 12}, r, api.Key{Deadline: 11, Seq: 13},
			step{load(s), 4*half + 2}, step{store(s, 4*half+1, 0), 4*half + 2}, step{add(2, 1), 13},
			step{store(s+1, 11, r), 0}, step{store(s+2, 13, r), 0}, step{store(s+3, 12, r), 0}, step{store(s+4, 2, r), 0})
	}
}

// 19.1: a state of each status, of each edge of a generation, and any other word: its high half alone counts.
func TestStates(t *testing.T) {
	for _, gen := range gens {
		for _, low := range []uint64{api.Free, api.Making, api.Live, api.Taken, api.Gone, 5, 1 << 31, half - 1} {
			for slot := 1; slot <= 3; slot++ {
				at, r := 1+7*slot, gen*half+2*uint64(slot)
				mints(t, job{small, slot, 50, 1}, r, api.Key{Deadline: 50, Seq: 7},
					step{load(at), gen*half + low}, step{store(at, gen*half+1, 0), 0}, step{add(2, 1), 7},
					step{store(at+1, 50, r), 0}, step{store(at+2, 7, r), 0}, step{store(at+3, 1, r), 0}, step{store(at+4, 2, r), 0})
			}
		}
	}
	// One generation behind the last one goes round to 0.
	mints(t, job{small, 2, 50, 1}, 4, api.Key{Deadline: 50, Seq: 7},
		step{load(15), state.Of(lastGen+1, api.Live)}, step{store(15, 1, 0), 0}, step{add(2, 1), 7},
		step{store(16, 50, 4), 0}, step{store(17, 7, 4), 0}, step{store(18, 1, 4), 0}, step{store(19, 2, 4), 0})
	for bit := range 64 {
		mintsAs(t, job{small, 2, 50, 1}, [7]uint64{1 << bit, 0, 7, 0, 0, 0, 0})
		mintsAs(t, job{small, 2, 50, 1}, [7]uint64{^uint64(1 << bit), 0, 7, 0, 0, 0, 0})
	}
}

// 19.1: the plan's generation counts for nothing: the one that is found does.
func TestGenerationIsTheOneThatIsFound(t *testing.T) {
	for _, gen := range append([]uint64{half, math.MaxUint64}, gens...) {
		p := small
		p.Gen = gen
		for _, found := range gens {
			mintsAs(t, job{p, 1, 50, 1}, [7]uint64{found * half, gen * half, 7, gen * half, gen, gen, gen})
		}
	}
}

// 19.1: whatever the Add finds is the number, and the Add adds 1.
func TestAnySerial(t *testing.T) {
	for _, s := range words {
		k := Mint(small, 1, 50, 1)
		k.Tell(9 * half)
		k.Tell(0)
		asks(t, k, add(2, 1))
		k.Tell(s)
		asks(t, k, store(9, 50, 9*half+2))
		k.Tell(^s)
		asks(t, k, store(10, s, 9*half+2))
		k.Tell(s + 1)
		asks(t, k, store(11, 1, 9*half+2))
		k.Tell(s - 1)
		asks(t, k, store(12, 2, 9*half+2))
		k.Tell(0)
		ended(t, k, 9*half+2, api.Key{Deadline: 50, Seq: s})
		c := made(t, small)
		c.Store(2, s)
		alone(t, c, job{small, 1, 50, 1})
		if c.Load(2) != s+1 || c.Load(10) != s {
			t.Fatalf("the serial is %d, the number %d", c.Load(2), c.Load(10))
		}
	}
}

// 19.1: whatever each Store finds, the steps are the same.
func TestStoresFindWhatever(t *testing.T) {
	for _, a := range words {
		mintsAs(t, job{small, 2, -5, 3}, [7]uint64{8 * half, a, 6, a, a, a, a})
		for _, b := range words {
			mintsAs(t, job{small, 2, -5, 3}, [7]uint64{8 * half, a, 6, b, 0, 0, 0})
			mintsAs(t, job{small, 2, -5, 3}, [7]uint64{8 * half, 8 * half, 6, 0, a, b, 0})
			mintsAs(t, job{small, 2, -5, 3}, [7]uint64{8 * half, 8 * half, 6, b, 0, 0, a})
		}
	}
}

// 19.1: of all plans and all edges of an index, a deadline, a tall, and words that are found.
func TestAllEdges(t *testing.T) {
	n := 0
	for _, p := range allPlans() {
		for _, index := range indices(p) {
			for _, deadline := range deadlines {
				for _, tall := range talls {
					var l [7]uint64
					for i := range l {
						l[i] = words[(n+5*i+n/len(words))%len(words)]
					}
					mintsAs(t, job{p, index, deadline, tall}, l)
					n++
				}
			}
		}
	}
}

// 19.1: words of chance, of plans, indices, deadlines and talls of the edges and of chance.
func TestWordsOfChance(t *testing.T) {
	r := rand.New(rand.NewSource(191))
	number := func(l []int) int {
		if r.Intn(3) == 0 {
			return int(r.Uint64()) >> r.Intn(64)
		}
		return l[r.Intn(len(l))]
	}
	plans := allPlans()
	for range 100000 {
		p := plans[r.Intn(len(plans))]
		var l [7]uint64
		for i := range l {
			l[i] = r.Uint64() >> r.Intn(64)
			if r.Intn(3) == 0 {
				l[i] = words[r.Intn(len(words))]
			}
		}
		mintsAs(t, job{p, number(indices(p)), number(deadlines), number(talls)}, l)
	}
}

// 19.1: asking changes nothing, however often, and neither do Ref and Key.
func TestAskingChangesNothing(t *testing.T) {
	j := job{small, 2, -7, 3}
	l := []uint64{5*half + 4, 0, 8, 0, 0, 0, 0}
	asked, r, key := j.tale(l[0], l[2])
	k := j.mint()
	for i, d := range asked {
		for range 1000 {
			asks(t, k, d)
		}
		k.Tell(l[i])
	}
	for range 1000 {
		ended(t, k, r, key)
	}
}

// 19.1: a task is told ahead of being asked, and goes on all the same; told from its beginning to its end, and further, it tells its timer.
func TestTellAheadOfNext(t *testing.T) {
	j := job{small, 2, 6, 3}
	l := []uint64{5*half + 4, 1, 8, 2, 3, 4, 5}
	asked, r, key := j.tale(l[0], l[2])
	for told := range 8 {
		k := j.mint()
		for _, w := range l[:told] {
			k.Tell(w)
		}
		if told < 7 {
			asks(t, k, asked[told])
			continue
		}
		tells(t, k, r, key)
		k.Tell(9*half + 9)
		ended(t, k, r, key)
	}
}

// 19.1 and R7: a minter that is nil, or that no call made, is done, stays so, does nothing, and tells no timer.
func TestTasksThatNoCallMade(t *testing.T) {
	var none *Minter
	for _, k := range []*Minter{none, {}, new(Minter)} {
		ended(t, k, 0, api.Key{})
		for _, w := range words {
			k.Tell(w)
			tells(t, k, 0, api.Key{})
		}
		c := made(t, small)
		was := c.Words()
		if l := task.Play(c, k, 9); len(l) != 0 {
			t.Fatalf("%v was found by a task that no call made", l)
		}
		stands(t, c, was)
	}
}

// 19.1: each minter goes its own way, of the same slot and of others.
func TestTasksAreApart(t *testing.T) {
	jobs := []job{{small, 2, 50, 4}, {small, 2, 50, 4}, {small, 1, -50, 1}, {api.Plan{}, 0, 0, 0}, {small, 2, 7, -4}}
	var ks []*Minter
	var told [][7]uint64
	for i, j := range jobs {
		n := uint64(i)
		ks = append(ks, j.mint())
		told = append(told, [7]uint64{(n+3)*half + n, n, 100 + n, n, n, n, n})
	}
	for i := range 7 {
		for n, k := range ks {
			asked, _, _ := jobs[n].tale(told[n][0], told[n][2])
			asks(t, k, asked[i])
		}
		for n, k := range ks {
			k.Tell(told[n][i])
		}
	}
	for n, k := range ks {
		_, r, key := jobs[n].tale(told[n][0], told[n][2])
		ended(t, k, r, key)
	}
}

// 19.1: done alone, at the beginning, of all slots and right plans, and of all edges else, it turns the slot's state, deadline, number, height and hold, and the serial, and no other word.
func TestAloneAtTheBeginning(t *testing.T) {
	for _, p := range rightPlans() {
		c := made(t, p)
		n := 0
		for slot := 1; slot <= p.Slots; slot++ {
			for _, deadline := range deadlines {
				alone(t, c, job{p, slot, deadline, talls[n%len(talls)]})
				n++
			}
		}
		if c.Load(2) != uint64(n) {
			t.Fatalf("the serial is %d behind %d timers", c.Load(2), n)
		}
	}
}

// 19.1: done alone, whatever words stand in the memory.
func TestAloneInWordsOfChance(t *testing.T) {
	r := rand.New(rand.NewSource(192))
	for _, p := range rightPlans() {
		for range 60 {
			l := made(t, p).Words()
			for at := range l {
				l[at] = words[r.Intn(len(words))]
				if r.Intn(2) == 0 {
					l[at] = r.Uint64()
				}
			}
			c := memory(t, l)
			slot := 1 + r.Intn(p.Slots)
			alone(t, c, job{p, slot, deadlines[r.Intn(len(deadlines))], talls[r.Intn(len(talls))]})
			at := stateAt(p, slot)
			s, stand := l[2], c.Words()
			if state.Gen(stand[at]) != state.Gen(l[at]) || state.Status(stand[at]) != api.Making || stand[at+2] != s || stand[at+4] != 2 {
				t.Fatalf("%v stand, of the slot %d of %+v", stand, slot, p)
			}
		}
	}
}

// 19.1: of plans that are not right, and of indices of no slot, the words that there are turn as the steps say, wherever the sums put them, and it ends.
func TestAnyMemory(t *testing.T) {
	for _, p := range allPlans() {
		for i, index := range indices(p) {
			l := make([]uint64, 60)
			for at := range l {
				l[at] = uint64(at) * (half + 1) * uint64(i%3)
			}
			alone(t, memory(t, l), job{p, index, deadlines[i%len(deadlines)], talls[i%len(talls)]})
		}
	}
}

// 19.1: where there is no memory each deed finds 0: so it makes a timer of the generation 0 and the number 0.
func TestNoMemory(t *testing.T) {
	for _, c := range []*cells.Cells{nil, new(cells.Cells)} {
		for _, p := range allPlans() {
			for i, index := range indices(p) {
				deadline := deadlines[i%len(deadlines)]
				k := Mint(p, index, deadline, 3)
				if l := task.Play(c, k, 99); !slices.Equal(l, make([]uint64, 7)) {
					t.Fatalf("%v was found of no memory", l)
				}
				ended(t, k, ref(0, index), api.Key{Deadline: deadline})
			}
		}
	}
}

// 19.1: its words are turned at their own steps, and neither sooner nor later.
func TestWordsStepByStep(t *testing.T) {
	c := made(t, small)
	c.Store(2, 7)
	stand := c.Words()
	k := Mint(small, 2, -50, 4)
	turned := []struct {
		at int
		w  uint64
	}{{15, 3 * half}, {15, 3*half + 1}, {2, 8}, {16, 1<<64 - 50}, {17, 7}, {18, 4}, {19, 2}}
	for n, turn := range turned {
		if l := task.Play(c, k, 1); len(l) != 1 || l[0] != stand[turn.at] {
			t.Fatalf("%v was found at the step %d", l, n+1)
		}
		stand[turn.at] = turn.w
		stands(t, c, stand)
	}
	ended(t, k, 3*half+4, api.Key{Deadline: -50, Seq: 7})
}

// turn is a minter under way.
type turn struct {
	fast *Minter
	job  job
	told []uint64
}

// step lets the minter do one step, held against what stands by the chapter's sentences, and tells whether it was the last one.
func (m *turn) step(t *testing.T, c *cells.Cells, stand []uint64) bool {
	t.Helper()
	var l [7]uint64
	copy(l[:], m.told)
	asked, r, key := m.job.tale(l[0], l[2])
	found := slow(stand, asked[len(m.told)])
	if got := task.Play(c, m.fast, 1); len(got) != 1 || got[0] != found {
		t.Fatalf("%v was found at one step, not %d", got, found)
	}
	stands(t, c, stand)
	m.told = append(m.told, found)
	if len(m.told) < 7 {
		tells(t, m.fast, 0, api.Key{})
		return false
	}
	ended(t, m.fast, r, key)
	return true
}

// making asks whether the timer of a minter that is done is being made, in its slot, of its generation, with its number.
func making(t *testing.T, c *cells.Cells, m *turn) {
	t.Helper()
	r, key := m.fast.Ref(), m.fast.Key()
	at := stateAt(m.job.plan, refer.Index(r))
	if !state.Is(c.Load(at), refer.Gen(r), api.Making) || int(c.Load(at+1)) != key.Deadline || c.Load(at+2) != key.Seq {
		t.Fatalf("of the timer %d, %+v, the state is %s, the deadline %d, the number %d", r, key, state.Text(c.Load(at)), int(c.Load(at+1)), c.Load(at+2))
	}
}

// 19.2: two timers, in all orders of their steps: their numbers are those that the serial had, each is being made, and whoever added first has the one that stood first.
func TestTwoInAllOrders(t *testing.T) {
	for order := range uint(1 << 14) {
		if bits.OnesCount(order) != 7 {
			continue
		}
		for _, s := range []uint64{0, math.MaxUint64} {
			c := made(t, small)
			c.Store(2, s)
			stand := c.Words()
			now := []*turn{{job: job{small, 1, 50, 1}}, {job: job{small, 3, 50, 1}}}
			for _, m := range now {
				m.fast = m.job.mint()
			}
			first := -1
			for bit := range 14 {
				i := int(order >> bit & 1)
				now[i].step(t, c, stand)
				if first < 0 && len(now[i].told) == 3 {
					first = i
				}
			}
			making(t, c, now[0])
			making(t, c, now[1])
			if a, b := now[first].fast.Key().Seq, now[1-first].fast.Key().Seq; a != s || b != s+1 {
				t.Fatalf("in the order %b they have the numbers %d and %d", order, a, b)
			}
		}
	}
}

// 19.2: timers that are made in any slots of right plans, one step of any of them at a time, again and again in slots that are given back meanwhile: no two have one number, and each is being made when it is done, as long as its slot is not given back.
func TestInTurns(t *testing.T) {
	r := rand.New(rand.NewSource(193))
	for _, p := range rightPlans() {
		p.Gen = lastGen - 40
		c := made(t, p)
		begin := words[r.Intn(len(words))]
		c.Store(2, begin)
		stand := c.Words()
		var now, over []*turn
		seen := map[uint64]bool{}
		for range 2500 {
			switch n := r.Intn(10); {
			case n == 0:
				k := pool.Pop(p)
				task.Play(c, k, 99)
				if k.Index() != 0 {
					j := job{p, k.Index(), deadlines[r.Intn(len(deadlines))], talls[r.Intn(len(talls))]}
					now = append(now, &turn{fast: j.mint(), job: j})
				}
				stand = c.Words()
			case n == 1 && len(over) > 0:
				i := r.Intn(len(over))
				task.Play(c, give.Give(p, over[i].fast.Ref()), 99)
				over = slices.Delete(over, i, i+1)
				stand = c.Words()
			case len(now) > 0:
				i := r.Intn(len(now))
				if m := now[i]; m.step(t, c, stand) {
					now, over = slices.Delete(now, i, i+1), append(over, m)
					s := m.fast.Key().Seq
					if seen[s] {
						t.Fatalf("two timers of %+v have the number %d", p, s)
					}
					seen[s] = true
				}
			}
			for _, m := range over {
				making(t, c, m)
			}
		}
		for len(now) > 0 {
			i := r.Intn(len(now))
			if m := now[i]; m.step(t, c, stand) {
				now = slices.Delete(now, i, i+1)
				making(t, c, m)
				seen[m.fast.Key().Seq] = true
			}
		}
		if len(seen) < 20 || uint64(len(seen)) != c.Load(2)-begin {
			t.Fatalf("%d timers of %+v were made, and the serial went from %d to %d", len(seen), p, begin, c.Load(2))
		}
	}
}

// 19.2: timers that are made one behind the other have rising numbers, one more each time, going round behind the greatest word.
func TestOneBehindTheOther(t *testing.T) {
	for _, p := range rightPlans() {
		for _, begin := range []uint64{0, 1, half - 3, 1<<63 - 3, math.MaxUint64 - 3} {
			c := made(t, p)
			c.Store(2, begin)
			for n := range uint64(3 * p.Slots) {
				k := Mint(p, 1+int(n)%p.Slots, 50, 1)
				task.Play(c, k, 99)
				if s := k.Key().Seq; s != begin+n {
					t.Fatalf("the number is %d, not %d", s, begin+n)
				}
			}
		}
	}
}

// 19.2: in one slot, by two that would both make a timer there, the numbers are two as well.
func TestSameSlot(t *testing.T) {
	for steps := range 8 {
		c := made(t, small)
		a, b := Mint(small, 2, 50, 1), Mint(small, 2, 60, 2)
		task.Play(c, a, steps)
		task.Play(c, b, 99)
		task.Play(c, a, 99)
		x, y := a.Key().Seq, b.Key().Seq
		if x+y != 1 || (x == 0) != (steps > 2) {
			t.Fatalf("behind %d steps the numbers are %d and %d", steps, x, y)
		}
		if !state.Is(c.Load(15), 3, api.Making) || c.Load(2) != 2 {
			t.Fatalf("the state is %s, the serial %d", state.Text(c.Load(15)), c.Load(2))
		}
	}
}
