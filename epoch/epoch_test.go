package epoch

import (
	"math"
	"math/rand"
	"slices"
	"testing"

	"sundial/api"
	"sundial/blank"
	"sundial/cells"
	"sundial/pin"
	"sundial/task"
)

// words are the edges of a word: of an epoch, and of what is found.
var words = []uint64{0, 1, 2, 4, 5, 1<<31 - 1, 1 << 31, 1<<32 - 1, 1 << 32, 1<<32 + 1, 1<<63 - 1, 1 << 63, 1<<63 + 1, math.MaxUint64 - 1, math.MaxUint64}

// small is a plan of which the threads' words Pin are at 4, 5 and 6.
var small = api.Plan{Threads: 3, Slots: 2, Levels: 4, Gen: 6}

// pinsOf are words Pin in an epoch: no epoch, that one, its neighbours, some with bits in common with it, and others.
func pinsOf(e uint64) []uint64 {
	return append([]uint64{0, e, e + 1, e - 1, e + 2, e - 2, ^e, -e, e ^ 1<<32, e ^ 1<<63, e & (1<<32 - 1), e >> 1, e << 1}, words...)
}

// holds tells whether a thread whose word Pin is a holds the epoch e back, by the chapter's sentence: it is neither 0 nor e.
func holds(a, e uint64) bool {
	return !(a == 0 || a == e)
}

// rightPlans are such of which each number is the least, one between, or the greatest, with each number of threads.
func rightPlans() []api.Plan {
	var l []api.Plan
	for threads := 1; threads <= 8; threads++ {
		for _, slots := range []int{1, 3, 64} {
			for _, levels := range []int{1, 4, 8} {
				for _, gen := range []uint64{0, 1, 1<<32 - 1} {
					l = append(l, api.Plan{Threads: threads, Slots: slots, Levels: levels, Gen: gen})
				}
			}
		}
	}
	return l
}

// wrongPlans are those of which one number alone is none that there is, and those of which all are.
func wrongPlans() []api.Plan {
	l := []api.Plan{{}, {Threads: -1, Slots: -1, Levels: -1}, {Threads: 9, Slots: 65, Levels: 9, Gen: 1 << 32}, {Threads: 10, Slots: 1, Levels: 1}, {Threads: 40, Slots: 1, Levels: 1}}
	for _, n := range []int{math.MinInt, math.MinInt + 1, math.MinInt32, -1 << 32, -1<<32 + 3, -256 + 3, -2, -1, 0} {
		l = append(l, api.Plan{Threads: n, Slots: 3, Levels: 4}, api.Plan{Threads: n, Slots: n, Levels: n, Gen: math.MaxUint64})
	}
	for _, n := range []int{math.MinInt, -1 << 32, -1, 0, 65, 1 << 32, 1<<32 + 1, math.MaxInt} {
		l = append(l, api.Plan{Threads: 2, Slots: n, Levels: 4}, api.Plan{Threads: 2, Slots: 3, Levels: n}, api.Plan{Threads: 2, Slots: n, Levels: n, Gen: math.MaxUint64})
	}
	for _, gen := range []uint64{1 << 32, 1<<32 + 1, 1 << 63, math.MaxUint64} {
		l = append(l, api.Plan{Threads: 2, Slots: 3, Levels: 4, Gen: gen})
	}
	return l
}

// The three deeds, in the numbers of their kinds and places.
func loadEpoch() api.Deed            { return api.Deed{Kind: 1, At: 0} }
func loadPin(thread int) api.Deed    { return api.Deed{Kind: 1, At: 4 + thread} }
func swapEpoch(e uint64) api.Deed    { return api.Deed{Kind: 3, At: 0, A: e, B: e + 1} }
func lost(t *testing.T, k *Advancer) { t.Helper(); tells(t, k, false) }

// tells asks whether Won tells won, again and again.
func tells(t *testing.T, k *Advancer, won bool) {
	t.Helper()
	for range 3 {
		if k.Won() != won {
			t.Fatalf("Won tells %v", !won)
		}
	}
}

// asks asks whether an advancer asks for d, again and again, and has not won.
func asks(t *testing.T, k *Advancer, d api.Deed) {
	t.Helper()
	lost(t, k)
	for range 3 {
		if got, more := k.Next(); got != d || !more {
			t.Fatalf("%+v is asked for (%v), not %+v", got, more, d)
		}
	}
	lost(t, k)
}

// ended asks whether an advancer is done, and stays so, having won or not, whatever it is told.
func ended(t *testing.T, k *Advancer, won bool) {
	t.Helper()
	for _, found := range append(words, 0, 0) {
		if got, more := k.Next(); got != (api.Deed{}) || more {
			t.Fatalf("%+v is asked for (%v) by a task that is done", got, more)
		}
		tells(t, k, won)
		k.Tell(found)
	}
	if got, more := k.Next(); got != (api.Deed{}) || more {
		t.Fatalf("a task that is done went on to %+v (%v)", got, more)
	}
	tells(t, k, won)
}

// goes asks whether Advance does what its steps say in the epoch e, of threads with these words Pin, where the Swap finds found.
func goes(t *testing.T, p api.Plan, e uint64, pins []uint64, found uint64) {
	t.Helper()
	k := Advance(p)
	asks(t, k, loadEpoch())
	k.Tell(e)
	for thread, a := range pins {
		asks(t, k, loadPin(thread))
		k.Tell(a)
		if holds(a, e) {
			ended(t, k, false)
			return
		}
	}
	asks(t, k, swapEpoch(e))
	k.Tell(found)
	ended(t, k, found == e)
}

// level are as many words Pin as a plan has threads, each of which is one of l by turns.
func level(p api.Plan, l ...uint64) []uint64 {
	var pins []uint64
	for thread := 0; thread < p.Threads; thread++ {
		pins = append(pins, l[thread%len(l)])
	}
	return pins
}

// made makes the memory at the beginning of a right plan, but for the epoch and the threads' words Pin.
func made(t *testing.T, p api.Plan, e uint64, pins []uint64) *cells.Cells {
	t.Helper()
	c, err := blank.Make(p)
	if err != api.OK {
		t.Fatalf("no memory of %+v: %d", p, err)
	}
	c.Store(0, e)
	for thread, a := range pins {
		c.Store(4+thread, a)
	}
	return c
}

// plays asks whether an advancer, done alone to a memory, finds just these words, and is done then, having won or not.
func plays(t *testing.T, c *cells.Cells, k *Advancer, won bool, found ...uint64) {
	t.Helper()
	if got := task.Play(c, k, 99); !slices.Equal(got, found) {
		t.Fatalf("%v was found, not %v", got, found)
	}
	ended(t, k, won)
}

// stands asks whether a memory has just these words.
func stands(t *testing.T, c *cells.Cells, l []uint64) {
	t.Helper()
	if got := c.Words(); !slices.Equal(got, l) {
		t.Fatalf("%v stand, not %v", got, l)
	}
}

// alone asks whether an advancer, done alone, finds what its steps say, and lets the epoch go on by one just if each thread is pinned in it, or in none, and turns no other word.
func alone(t *testing.T, p api.Plan, e uint64, pins []uint64) {
	t.Helper()
	c := made(t, p, e, pins)
	stand := c.Words()
	found := []uint64{e}
	held := false
	for _, a := range pins {
		if held = holds(a, e); held {
			found = append(found, a)
			break
		}
		found = append(found, a)
	}
	if !held {
		found = append(found, e)
		stand[0] = e + 1
	}
	plays(t, c, Advance(p), !held, found...)
	stands(t, c, stand)
}

// 14.1 and 14.2: the chapter's examples.
func TestExamples(t *testing.T) {
	p := api.Plan{Threads: 2, Slots: 3, Levels: 4}
	for _, other := range []uint64{0, 4} {
		c := made(t, p, 4, []uint64{4, other})
		plays(t, c, Advance(p), true, 4, 4, other, 4)
		if e := c.Load(0); e != 5 {
			t.Errorf("the epoch is %d, not 5", e)
		}
		c = made(t, p, 4, []uint64{3, other})
		plays(t, c, Advance(p), false, 4, 3)
		if e := c.Load(0); e != 4 {
			t.Errorf("the epoch is %d, not 4", e)
		}
	}
}

// 14.1: each deed in the names of api's.
func TestDeedsByName(t *testing.T) {
	k := Advance(small)
	asks(t, k, api.Deed{Kind: api.Load, At: api.AtEpoch})
	k.Tell(9)
	asks(t, k, api.Deed{Kind: api.Load, At: 4})
	k.Tell(9)
	asks(t, k, api.Deed{Kind: api.Load, At: 5})
	k.Tell(0)
	asks(t, k, api.Deed{Kind: api.Load, At: 6})
	k.Tell(9)
	asks(t, k, api.Deed{Kind: api.Swap, At: api.AtEpoch, A: 9, B: 10})
}

// 14.1: the epoch goes round behind the greatest word there is.
func TestEpochGoesRound(t *testing.T) {
	p := api.Plan{Threads: 1, Slots: 1, Levels: 1}
	for e, next := range map[uint64]uint64{0: 1, 1: 2, 1<<32 - 1: 1 << 32, 1<<63 - 1: 1 << 63, math.MaxUint64 - 1: math.MaxUint64, math.MaxUint64: 0} {
		k := Advance(p)
		k.Tell(e)
		k.Tell(e)
		asks(t, k, api.Deed{Kind: 3, A: e, B: next})
		c := made(t, p, e, []uint64{e})
		plays(t, c, Advance(p), true, e, e, e)
		if got := c.Load(0); got != next {
			t.Errorf("behind the epoch %d comes %d, not %d", e, got, next)
		}
	}
}

// 14.1: of each number of threads, in each epoch, with one thread at each place pinned in each word, the others in that epoch or in none.
func TestOnePin(t *testing.T) {
	for threads := 1; threads <= 8; threads++ {
		p := api.Plan{Threads: threads, Slots: 3, Levels: 4}
		for _, e := range words {
			for _, others := range [][]uint64{{0}, {e}, {0, e}, {e, 0, 0}} {
				for thread := range threads {
					for _, a := range pinsOf(e) {
						pins := level(p, others...)
						pins[thread] = a
						goes(t, p, e, pins, e)
					}
				}
			}
		}
	}
}

// 14.1: of plans that are right and such as are not, each of as many threads as it says, of none where it says none or fewer, whatever the other numbers are.
func TestPlans(t *testing.T) {
	for _, p := range append(rightPlans(), wrongPlans()...) {
		for _, e := range words {
			goes(t, p, e, level(p, 0), e)
			goes(t, p, e, level(p, e), e)
			goes(t, p, e, level(p, 0, e, e), e+1)
			if p.Threads < 1 {
				continue
			}
			for _, thread := range []int{0, p.Threads / 2, p.Threads - 1} {
				pins := level(p, e, 0)
				pins[thread] = e + 2
				goes(t, p, e, pins, e)
			}
		}
	}
}

// 14.1: the Swap finds the epoch, and whatever else there is; just if it finds the epoch is it won.
func TestSwapFinds(t *testing.T) {
	for _, p := range []api.Plan{{}, {Threads: 1, Slots: 1, Levels: 1}, small, {Threads: 8, Slots: 64, Levels: 8, Gen: 1<<32 - 1}} {
		for _, e := range words {
			for _, found := range pinsOf(e) {
				goes(t, p, e, level(p, e, 0), found)
			}
		}
	}
}

// 14.1: of more threads than there may be it goes on for as many as the plan says, and as long as nobody holds the epoch back.
func TestMoreThreadsThanThereMayBe(t *testing.T) {
	for _, threads := range []int{9, 64, 1000, 4093} {
		p := api.Plan{Threads: threads, Slots: 1, Levels: 1}
		goes(t, p, 7, level(p, 7, 0), 7)
		pins := level(p, 7, 0)
		pins[threads-1] = 6
		goes(t, p, 7, pins, 7)
	}
	for _, threads := range []int{1<<32 + 1, 1 << 33, math.MaxInt - 4, math.MaxInt} {
		k := Advance(api.Plan{Threads: threads, Slots: 1, Levels: 1})
		k.Tell(7)
		for thread := range 20000 {
			if got, more := k.Next(); got != loadPin(thread) || !more {
				t.Fatalf("%+v is asked for (%v) of the thread %d", got, more, thread)
			}
			k.Tell(7 * uint64(thread%2))
		}
		lost(t, k)
		k.Tell(8)
		ended(t, k, false)
	}
}

// 14.1: asking changes nothing, however often.
func TestNextChangesNothing(t *testing.T) {
	k := Advance(small)
	again := func(d api.Deed) {
		t.Helper()
		for range 1000 {
			asks(t, k, d)
		}
	}
	again(loadEpoch())
	k.Tell(6)
	again(loadPin(0))
	k.Tell(0)
	again(loadPin(1))
	k.Tell(6)
	again(loadPin(2))
	k.Tell(0)
	again(swapEpoch(6))
	k.Tell(6)
	ended(t, k, true)
}

// 14.1: a task is told ahead of being asked, and goes on all the same; Won is asked at no point but the last, too.
func TestTellAheadOfNext(t *testing.T) {
	all := []uint64{8, 0, 8, 8, 8}
	for n := range len(all) {
		k := Advance(small)
		for _, found := range all[:n] {
			k.Tell(found)
		}
		want := []api.Deed{loadEpoch(), loadPin(0), loadPin(1), loadPin(2), swapEpoch(8)}
		asks(t, k, want[n])
	}
	for last, won := range map[uint64]bool{8: true, 9: false, 0: false, 7: false} {
		k := Advance(small)
		for _, found := range append(slices.Clone(all[:4]), last) {
			k.Tell(found)
		}
		ended(t, k, won)
	}
	k := Advance(small)
	k.Tell(8)
	k.Tell(8)
	k.Tell(9)
	k.Tell(8)
	k.Tell(8)
	ended(t, k, false)
}

// 14.1: the epoch is the first word that it was told, and no later one; a 0 among them is no thread's.
func TestEpochIsTheFirstWord(t *testing.T) {
	k := Advance(small)
	k.Tell(0)
	k.Tell(0)
	k.Tell(0)
	k.Tell(0)
	asks(t, k, api.Deed{Kind: 3, A: 0, B: 1})
	k.Tell(0)
	ended(t, k, true)
	goes(t, small, 0, []uint64{0, 1, 0}, 0)
	goes(t, small, 0, []uint64{0, 0, math.MaxUint64}, 0)
	goes(t, small, math.MaxUint64, []uint64{0, math.MaxUint64, 1}, math.MaxUint64)
	goes(t, small, 5, []uint64{5, 0, 5}, 0)
}

// 14.1 and R7: an advancer that is nil, or that no call made, is done, stays so, does nothing, and has not won.
func TestTasksThatNoCallMade(t *testing.T) {
	var none *Advancer
	for _, k := range []*Advancer{none, {}, new(Advancer)} {
		ended(t, k, false)
		c := made(t, small, 1, nil)
		was := c.Words()
		plays(t, c, k, false)
		stands(t, c, was)
	}
}

// 14.1: each advancer goes its own way, of the same plan and of others.
func TestTasksAreApart(t *testing.T) {
	a, b, other := Advance(small), Advance(small), Advance(api.Plan{Threads: 1, Slots: 1, Levels: 1})
	a.Tell(5)
	a.Tell(5)
	asks(t, a, loadPin(1))
	asks(t, b, loadEpoch())
	asks(t, other, loadEpoch())
	b.Tell(6)
	other.Tell(7)
	b.Tell(5)
	ended(t, b, false)
	asks(t, a, loadPin(1))
	other.Tell(7)
	asks(t, other, swapEpoch(7))
	a.Tell(0)
	a.Tell(5)
	other.Tell(7)
	ended(t, other, true)
	asks(t, a, swapEpoch(5))
	a.Tell(6)
	ended(t, a, false)
	ended(t, other, true)
}

// 14.2: alone, of up to four threads that are pinned in each way there is: in the epoch, in one behind or ahead of it, in another one, in none.
func TestAloneEachWay(t *testing.T) {
	for threads := 1; threads <= 4; threads++ {
		p := api.Plan{Threads: threads, Slots: 2, Levels: 2}
		for _, e := range []uint64{0, 1, 2, 1 << 40, math.MaxUint64 - 1, math.MaxUint64} {
			ways := []uint64{0, e, e + 1, e - 1, e ^ 1<<32}
			many := 1
			for range threads {
				many *= len(ways)
			}
			for n := range many {
				var pins []uint64
				for range threads {
					pins = append(pins, ways[n%len(ways)])
					n /= len(ways)
				}
				alone(t, p, e, pins)
			}
		}
	}
}

// 14.2: alone, of all right plans, where all threads are pinned in the epoch, or in none, or one at each place is not.
func TestAloneOfAllPlans(t *testing.T) {
	for _, p := range rightPlans() {
		for _, e := range []uint64{0, 1, 4, 1 << 32, math.MaxUint64} {
			alone(t, p, e, level(p, 0))
			alone(t, p, e, level(p, e))
			alone(t, p, e, level(p, 0, e))
			for thread := range p.Threads {
				for _, a := range []uint64{e + 1, e - 1, e + 7} {
					pins := level(p, e, 0, 0)
					pins[thread] = a
					alone(t, p, e, pins)
				}
			}
		}
	}
}

// 14.2: alone, of words of chance, such as are held back and such as are not.
func TestAloneOfChance(t *testing.T) {
	r := rand.New(rand.NewSource(14))
	for range 20000 {
		p := api.Plan{Threads: 1 + r.Intn(8), Slots: 1 + r.Intn(4), Levels: 1 + r.Intn(8), Gen: uint64(r.Uint32())}
		e := words[r.Intn(len(words))]
		if r.Intn(2) == 0 {
			e = r.Uint64()
		}
		pins := level(p, 0)
		for thread := range pins {
			pins[thread] = e * uint64(r.Intn(2))
		}
		if r.Intn(2) == 0 {
			near := pinsOf(e)
			pins[r.Intn(len(pins))] = near[r.Intn(len(near))]
		}
		alone(t, p, e, pins)
	}
}

// 14.2: where the threads sleep, their semaphores, and all other words, hold no epoch back: the threads' words Pin alone do.
func TestOtherWordsHoldNothingBack(t *testing.T) {
	for _, threads := range []int{1, 3, 8} {
		p := api.Plan{Threads: threads, Slots: 2, Levels: 3}
		c := made(t, p, 4, level(p, 4, 0))
		for at := 1; at < len(c.Words()); at++ {
			if at < 4 || at >= 4+threads {
				c.Store(at, uint64(at)+1000)
			}
		}
		stand := c.Words()
		found := append(append([]uint64{4}, level(p, 4, 0)...), 4)
		plays(t, c, Advance(p), true, found...)
		stand[0] = 5
		stands(t, c, stand)
	}
}

// 14.2: alone again and again, the epoch goes on each time as long as nobody is pinned; a thread that stands still in one keeps it from going on by more than one (13).
func TestGoesOnAgainAndAgain(t *testing.T) {
	c := made(t, small, 1, nil)
	for e := uint64(1); e < 100; e++ {
		plays(t, c, Advance(small), true, e, 0, 0, 0, e)
	}
	task.Play(c, pin.Pin(small, 1), 9)
	plays(t, c, Advance(small), true, 100, 0, 100, 0, 100)
	for range 9 {
		plays(t, c, Advance(small), false, 101, 0, 100)
	}
	task.Play(c, pin.Unpin(small, 1), 9)
	plays(t, c, Advance(small), true, 101, 0, 0, 0, 101)
	task.Play(c, pin.Pin(small, 2), 9)
	plays(t, c, Advance(small), true, 102, 0, 0, 102, 102)
	plays(t, c, Advance(small), false, 103, 0, 0, 102)
}

// 14.1: the epoch goes on by another one in between: whatever it is then, the Swap finds it, changes nothing, and is not won.
func TestEpochGoesOnBetween(t *testing.T) {
	for steps := 1; steps <= 4; steps++ {
		for _, e := range []uint64{0, 4, math.MaxUint64} {
			c := made(t, small, e, nil)
			first, second := Advance(small), Advance(small)
			task.Play(c, first, steps)
			plays(t, c, second, true, e, 0, 0, 0, e)
			stand := c.Words()
			l := task.Play(c, first, 9)
			if len(l) != 5-steps || l[len(l)-1] != e+1 {
				t.Errorf("behind %d steps %v was found", steps, l)
			}
			ended(t, first, false)
			ended(t, second, true)
			stands(t, c, stand)
		}
	}
}

// 14.1: an epoch that went on and has come back is that one: the Swap holds the words against each other alone.
func TestEpochThatHasComeBack(t *testing.T) {
	c := made(t, small, 4, nil)
	k := Advance(small)
	task.Play(c, k, 3)
	c.Store(0, 5)
	c.Store(0, 4)
	plays(t, c, k, true, 0, 4)
	if e := c.Load(0); e != 5 {
		t.Errorf("the epoch is %d, not 5", e)
	}
}

// 14.1: a thread is asked where it is pinned once, when it is its turn: whatever is turned behind that is not looked at again.
func TestThreadsTurnBetween(t *testing.T) {
	c := made(t, small, 4, []uint64{4, 0, 3})
	k := Advance(small)
	task.Play(c, k, 2)
	c.Store(4, 3)
	c.Store(6, 4)
	plays(t, c, k, true, 0, 4, 4)
	stand := c.Words()
	if stand[0] != 5 || stand[4] != 3 || stand[6] != 4 {
		t.Errorf("%v stand", stand[:7])
	}
	c = made(t, small, 4, []uint64{4, 0, 4})
	k = Advance(small)
	task.Play(c, k, 3)
	c.Store(6, 5)
	plays(t, c, k, false, 5)
	if e := c.Load(0); e != 4 {
		t.Errorf("the epoch is %d, not 4", e)
	}
}

// slow is an advancer under way, by the chapter's sentences: how many steps it did, and the epoch that it found.
type slow struct {
	fast  *Advancer
	steps int
	epoch uint64
}

// step does one step to the words that stand, and tells whether it was the last one, and whether the epoch went on by it.
func (s *slow) step(stand []uint64, threads int) (last, won bool) {
	n := s.steps
	s.steps++
	if n == 0 {
		s.epoch = stand[0]
		return false, false
	}
	if n <= threads {
		return holds(stand[3+n], s.epoch), false
	}
	if stand[0] != s.epoch {
		return true, false
	}
	stand[0]++
	return true, true
}

// 14.1: many that let the epoch go on by turns, in ways of chance, while threads pin and leave, against what stands by the chapter's sentences.
func TestInTurns(t *testing.T) {
	r := rand.New(rand.NewSource(141))
	wins := 0
	for _, p := range rightPlans() {
		c := made(t, p, words[r.Intn(len(words))], nil)
		stand := c.Words()
		now := make([]*slow, 3)
		for range 400 {
			if r.Intn(5) == 0 {
				at := 4 + r.Intn(p.Threads)
				stand[at] = []uint64{0, stand[0], stand[0] - 1}[r.Intn(3)]
				if r.Intn(4) > 0 {
					stand[at] = 0
				}
				c.Store(at, stand[at])
			}
			i := r.Intn(len(now))
			if now[i] == nil {
				now[i] = &slow{fast: Advance(p)}
			}
			s := now[i]
			last, won := s.step(stand, p.Threads)
			if l := task.Play(c, s.fast, 1); len(l) != 1 {
				t.Fatalf("%v was found at one step", l)
			}
			stands(t, c, stand)
			tells(t, s.fast, won)
			if _, more := s.fast.Next(); more == last {
				t.Fatalf("behind the step %d more is %v", s.steps, more)
			}
			if last {
				ended(t, s.fast, won)
				now[i] = nil
			}
			if won {
				wins++
			}
		}
	}
	if wins < 1000 {
		t.Errorf("the epoch went on %d times only", wins)
	}
}

// 14.1: where a plan is not right, the words are those at which its sums put them, and 0 where there is none.
func TestMemoryOfPlansThatAreNotRight(t *testing.T) {
	for _, p := range wrongPlans() {
		c, err := cells.New(12)
		if err != api.OK {
			t.Fatalf("no memory: %d", err)
		}
		c.Store(0, 6)
		for at := 4; at < 12; at++ {
			c.Store(at, 6*uint64(at%2))
		}
		stand := c.Words()
		found := []uint64{6}
		for at := 4; at < 4+p.Threads; at++ {
			found = append(found, c.Load(at))
		}
		stand[0] = 7
		plays(t, c, Advance(p), true, append(found, 6)...)
		stands(t, c, stand)
	}
}

// 14.1: where there is no memory each deed finds 0: so the Swap finds the epoch that was found.
func TestNoMemory(t *testing.T) {
	for _, c := range []*cells.Cells{nil, new(cells.Cells)} {
		for _, p := range append(wrongPlans(), rightPlans()...) {
			found := append(level(p, 0), 0, 0)
			plays(t, c, Advance(p), true, found...)
		}
	}
}
