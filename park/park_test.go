package park

import (
	"math"
	"math/rand"
	"slices"
	"testing"

	"sundial/api"
	"sundial/blank"
	"sundial/cells"
	"sundial/task"
	"sundial/wake"
)

// never is 2^60 + 1, and least and greatest are the least and the greatest int.
const (
	never    = 1152921504606846977
	least    = -9223372036854775808
	greatest = 9223372036854775807
)

// most is the greatest word.
const most = 18446744073709551615

// words are the edges of a word; from 1<<63 on they are ints below 0.
var words = []uint64{0, 1, 2, 3, 4, 5, 6, 7, 9, 10, 1<<31 - 1, 1 << 31, 1<<32 - 1, 1 << 32, 1<<32 + 1, 1<<32 + 6, never - 1, never, never + 1, never + 2, 1<<63 - 1, 1 << 63, 1<<63 + 1, 1<<63 + 6, most - 6, most - 1, most}

// untils are the edges of the time till which a thread waits.
var untils = []int{least, least + 1, -never, -1<<32 - 1, -1 << 32, -7, -3, -2, -1, 0, 1, 2, 5, 1<<31 - 1, 1 << 31, 1<<32 - 1, 1 << 32, never - 2, never - 1, never, never + 1, greatest - 1, greatest}

// outside are threads that no plan has, but for those of which the words stand round the ends.
var outside = []int{least, least + 1, least + 10, -1<<63 + 1<<32, -1<<32 - 1, -1 << 32, -64, -11, -10, -9, -8, -7, -6, -4, -3, -2, -1, 8, 9, 10, 64, 4096, 1<<31 - 1, 1 << 31, 1 << 32, 1<<32 + 1, greatest - 10, greatest - 1, greatest}

// small is a plan of which the threads' words Sem are at 10, 11 and 12.
var small = api.Plan{Threads: 3, Slots: 2, Levels: 4, Gen: 6}

// wordOf is the word of an int: of -1 the greatest one.
func wordOf(n int) uint64 {
	if n < 0 {
		return most - uint64(-(n + 1))
	}
	return uint64(n)
}

// come tells whether a time has come at what the clock's word is, by the chapter's sentence: that word, which from 2^63 on is an int below 0, is the time, or above.
func come(now uint64, until int) bool {
	below := now >= 1<<63
	if below == (until < 0) {
		return now >= wordOf(until)
	}
	return until < 0
}

// timesOf are words of the clock held against a time: just that one, those beside it, 0, 2^63 - 1, the words from 2^63 on, and those that have bits in common with it.
func timesOf(until int) []uint64 {
	s := wordOf(until)
	return append([]uint64{s - 1, s, s + 1, s - 2, s + 2, ^s, -s, s ^ 1<<31, s ^ 1<<32, s ^ 1<<62, s ^ 1<<63, s & (1<<32 - 1), s >> 1, s << 1}, words...)
}

// still are words of the clock at which a time has not come.
func still(until int) []uint64 {
	return slices.DeleteFunc(timesOf(until), func(now uint64) bool { return come(now, until) })
}

// rightPlans are such of which each number is the least, one between, or the greatest, with each number of threads.
func rightPlans() []api.Plan {
	var l []api.Plan
	for threads := 1; threads <= 8; threads++ {
		for _, slots := range []int{1, 3, 64} {
			for _, levels := range []int{1, 4, 8} {
				for _, gen := range []uint64{0, 1, 1<<32 - 1} {
					l = append(l, api.Plan{Threads: threads, Slots: slots, Levels: levels, Gen: gen})
				}
			}
		}
	}
	return l
}

// wrongPlans are those of which one number alone is none that there is, and those of which all are.
func wrongPlans() []api.Plan {
	l := []api.Plan{{}, {Threads: -1, Slots: -1, Levels: -1}, {Threads: 9, Slots: 65, Levels: 9, Gen: 1 << 32}, {Threads: 10, Slots: 1, Levels: 1}, {Threads: 40, Slots: 1, Levels: 1}}
	for _, n := range []int{math.MinInt, math.MinInt + 1, math.MinInt32, -1 << 32, -1<<32 + 3, -256 + 3, -2, -1, 0, 9, 1 << 32, 1<<32 + 3, 1 << 62, math.MaxInt - 1, math.MaxInt} {
		l = append(l, api.Plan{Threads: n, Slots: 3, Levels: 4}, api.Plan{Threads: n, Slots: n, Levels: n, Gen: math.MaxUint64})
	}
	for _, n := range []int{math.MinInt, -1 << 32, -1, 0, 65, 1 << 32, 1<<32 + 1, math.MaxInt} {
		l = append(l, api.Plan{Threads: 2, Slots: n, Levels: 4}, api.Plan{Threads: 2, Slots: 3, Levels: n}, api.Plan{Threads: 2, Slots: n, Levels: n, Gen: math.MaxUint64})
	}
	for _, gen := range []uint64{1 << 32, 1<<32 + 1, 1 << 63, math.MaxUint64} {
		l = append(l, api.Plan{Threads: 2, Slots: 3, Levels: 4, Gen: gen})
	}
	return l
}

// allPlans are those that are right, and those that are not.
func allPlans() []api.Plan {
	return append(rightPlans(), wrongPlans()...)
}

// threadsOf are the threads of a plan, as far as there are eight, those beside them, and those outside of all plans.
func threadsOf(p api.Plan) []int {
	return append([]int{0, 1, 2, 3, 4, 5, 6, 7, p.Threads - 1, p.Threads, p.Threads + 1}, outside...)
}

// semAt tells where the semaphore of a thread stands, by chapter 8's sums.
func semAt(p api.Plan, thread int) int { return 4 + 2*p.Threads + thread }

// The three deeds, in the numbers of their kinds: a Load of a place, an Add of 2^64 - 1 to one, and the Load of the clock.
func load(at int) api.Deed { return api.Deed{Kind: 1, At: at} }
func take(at int) api.Deed { return api.Deed{Kind: 4, At: at, A: most} }

var clock = api.Deed{Kind: 1, At: 1}

// move is a deed that is asked for, and what is told then.
type move struct {
	asked api.Deed
	found uint64
}

// asks asks whether a parker asks for d, again and again.
func asks(t *testing.T, k *Parker, d api.Deed) {
	t.Helper()
	for range 3 {
		if got, more := k.Next(); got != d || !more {
			t.Fatalf("%+v is asked for (%v), not %+v", got, more, d)
		}
	}
}

// goes asks whether a parker asks for the deeds of l, and tells it what is found.
func goes(t *testing.T, k *Parker, l ...move) {
	t.Helper()
	for _, s := range l {
		asks(t, k, s.asked)
		k.Tell(s.found)
	}
}

// ended asks whether a parker is done, and stays so, whatever it is told.
func ended(t *testing.T, k *Parker) {
	t.Helper()
	for _, found := range append(words, 0, most, 0) {
		if got, more := k.Next(); got != (api.Deed{}) || more {
			t.Fatalf("%+v is asked for (%v) by a task that is done", got, more)
		}
		k.Tell(found)
	}
	if got, more := k.Next(); got != (api.Deed{}) || more {
		t.Fatalf("a task that is done went on to %+v (%v)", got, more)
	}
}

// rounds are the steps of as many rounds as there are times: each time the semaphore is 0, and the clock is that time.
func rounds(p api.Plan, thread int, times ...uint64) []move {
	var l []move
	for _, now := range times {
		l = append(l, move{load(semAt(p, thread)), 0}, move{clock, now})
	}
	return l
}

// woken are the two steps at the end, if the semaphore is s, where the Add finds another word.
func woken(p api.Plan, thread int, s, found uint64) []move {
	return []move{{load(semAt(p, thread)), s}, {take(semAt(p, thread)), found}}
}

// whole asks whether a parker goes just the steps of l, and is done then.
func whole(t *testing.T, k *Parker, l ...move) {
	t.Helper()
	goes(t, k, l...)
	ended(t, k)
}

// tale is the task that Park comes to by the chapter's sentences: step is the sentence's number, from 4 on it is done.
type tale struct {
	plan          api.Plan
	thread, until int
	step          int
}

// tell makes the tale of a parker.
func tell(p api.Plan, thread, until int) *tale {
	return &tale{plan: p, thread: thread, until: until, step: 1}
}

func (s *tale) Next() (api.Deed, bool) {
	switch s.step {
	case 1:
		return load(semAt(s.plan, s.thread)), true
	case 2:
		return take(semAt(s.plan, s.thread)), true
	case 3:
		return clock, true
	}
	return api.Deed{}, false
}

func (s *tale) Tell(found uint64) {
	switch {
	case s.step == 1 && found == 0:
		s.step = 3
	case s.step == 1:
		s.step = 2
	case s.step == 3 && !come(found, s.until):
		s.step = 1
	default:
		s.step = 4
	}
}

// same asks whether a parker stands where its tale does, and tells whether it goes on.
func same(t *testing.T, k *Parker, s *tale) bool {
	t.Helper()
	want, more := s.Next()
	if got, ok := k.Next(); got != want || ok != more {
		t.Fatalf("Park of %+v, %d and %d asks for %+v (%v), not for %+v", s.plan, s.thread, s.until, got, ok, want)
	}
	return more
}

// made makes the memory at the beginning of a right plan, but for the time and the threads' semaphores.
func made(t *testing.T, p api.Plan, now uint64, sems ...uint64) *cells.Cells {
	t.Helper()
	c, err := blank.Make(p)
	if err != api.OK {
		t.Fatalf("no memory of %+v: %d", p, err)
	}
	c.Store(1, now)
	for thread, s := range sems {
		c.Store(semAt(p, thread), s)
	}
	return c
}

// stands asks whether a memory has just these words.
func stands(t *testing.T, c *cells.Cells, l []uint64) {
	t.Helper()
	if got := c.Words(); !slices.Equal(got, l) {
		t.Fatalf("%v stand, not %v", got, l)
	}
}

// plays asks whether a parker, done alone to a memory, finds just these words, and is done then.
func plays(t *testing.T, c *cells.Cells, k *Parker, found ...uint64) {
	t.Helper()
	if got := task.Play(c, k, 999); !slices.Equal(got, found) {
		t.Fatalf("%v was found, not %v", got, found)
	}
	ended(t, k)
}

// stays asks whether a parker, done alone to a memory for many steps, finds the semaphore 0 and the same time by turns, turns no word, and goes on.
func stays(t *testing.T, c *cells.Cells, k *Parker, now uint64) {
	t.Helper()
	stand := c.Words()
	for range 10 {
		if got := task.Play(c, k, 2); !slices.Equal(got, []uint64{0, now}) {
			t.Fatalf("%v was found, not 0 and %d", got, now)
		}
	}
	if d, more := k.Next(); d.Kind != api.Load || !more {
		t.Fatalf("%+v is asked for (%v)", d, more)
	}
	stands(t, c, stand)
}

// alone asks whether a parker, done alone to a memory of a plan, is done in two steps just if the semaphore is not 0, which is one less then, or the time has come, and turns no other word.
func alone(t *testing.T, c *cells.Cells, p api.Plan, thread, until int) {
	t.Helper()
	stand, k := c.Words(), Park(p, thread, until)
	s, now := stand[semAt(p, thread)], stand[1]
	switch {
	case s != 0:
		plays(t, c, k, s, s)
		stand[semAt(p, thread)] = s - 1
	case come(now, until):
		plays(t, c, k, 0, now)
	default:
		stays(t, c, k, now)
	}
	stands(t, c, stand)
}

// 29.1 and 29.2: the chapter's examples: with the semaphore 2 a load of 2, and 1 is left; with 0, at the time 4, a load, a load; till 4 it is done, till 5 it loads again.
func TestExample(t *testing.T) {
	p := api.Plan{Threads: 2, Slots: 3, Levels: 4}
	c := made(t, p, 4, 0, 2)
	stand := c.Words()
	k := Park(p, 1, 9)
	if l := task.Play(c, k, 1); !slices.Equal(l, []uint64{2}) {
		t.Fatalf("%v was found", l)
	}
	plays(t, c, k, 2)
	stand[9] = 1
	stands(t, c, stand)
	plays(t, c, Park(p, 0, 4), 0, 4)
	stands(t, c, stand)
	k = Park(p, 0, 5)
	if l := task.Play(c, k, 5); !slices.Equal(l, []uint64{0, 4, 0, 4, 0}) {
		t.Fatalf("%v was found", l)
	}
	asks(t, k, api.Deed{Kind: api.Load, At: api.AtClock})
	stands(t, c, stand)
}

// 29.1: each deed in the names of api's, at places in numbers: its kind, place, A, B and By.
func TestDeedsByName(t *testing.T) {
	sem, now := api.Deed{Kind: api.Load, At: 11}, api.Deed{Kind: api.Load, At: api.AtClock}
	whole(t, Park(small, 1, 5), move{sem, 2}, move{api.Deed{Kind: api.Add, At: 11, A: 1<<64 - 1}, 2})
	whole(t, Park(small, 1, 5), move{sem, 0}, move{now, 5})
	whole(t, Park(small, 1, 5), move{sem, 0}, move{now, 4}, move{sem, 0}, move{now, 0}, move{sem, 1}, move{api.Deed{Kind: api.Add, At: 11, A: 1<<64 - 1}, 7})
	if api.Load != 1 || api.Add != 4 || api.AtClock != 1 {
		t.Errorf("the numbers of the kinds and of the clock's place are %d, %d and %d", api.Load, api.Add, api.AtClock)
	}
}

// 29.1: where the semaphores stand, in numbers: of the first and the last thread of plans of the fewest, the most and some threads, of threads below 0, and of as many as the plan has.
func TestPlacesInNumbers(t *testing.T) {
	for _, row := range []struct{ threads, thread, at int }{
		{1, 0, 6}, {2, 0, 8}, {2, 1, 9}, {3, 0, 10}, {3, 2, 12}, {8, 0, 20}, {8, 7, 27},
		{1, 1, 7}, {2, 2, 10}, {8, 8, 28}, {8, 9, 29}, {2, -1, 7}, {2, -7, 1}, {2, -8, 0}, {2, -9, -1}, {8, -1, 19},
		{0, 0, 4}, {0, -3, 1}, {0, 5, 9}, {9, 8, 30}, {-1, 0, 2}, {-2, 0, 0}, {-3, 0, -2},
		{2, least, least + 8}, {2, greatest, least + 7}, {2, greatest - 8, greatest}, {2, greatest - 7, least},
		{greatest, 0, 2}, {greatest, 1, 3}, {greatest, greatest, least + 1}, {least, 0, 4}, {least, least, least + 4}, {1 << 62, 0, least + 4}, {1 << 62, 1, least + 5},
	} {
		for _, slots := range []int{1, 3, 64, -1, greatest} {
			p := api.Plan{Threads: row.threads, Slots: slots, Levels: 4, Gen: 7}
			whole(t, Park(p, row.thread, 5), move{load(row.at), 1}, move{take(row.at), 1})
			whole(t, Park(p, row.thread, 5), move{load(row.at), 0}, move{clock, 4}, move{load(row.at), 0}, move{clock, 5})
		}
	}
}

// 29.1: the time in numbers: the least time at which it is done, and the greatest one at which it is not.
func TestTimesInNumbers(t *testing.T) {
	for _, row := range []struct {
		until    int
		not, yet []uint64
	}{
		{0, []uint64{most, most - 1, 1 << 63, 1<<63 + 1}, []uint64{0, 1, 2, never, 1<<63 - 1}},
		{1, []uint64{0, most, 1 << 63}, []uint64{1, 2, 3, 1 << 32, 1<<63 - 1}},
		{5, []uint64{4, 3, 0, most, 1 << 63}, []uint64{5, 6, 1<<63 - 1}},
		{1 << 60, []uint64{1<<60 - 1, 0, most}, []uint64{1 << 60, 1<<60 + 1, 1<<60 + 2, 1<<63 - 1}},
		{never, []uint64{1 << 60, 1<<60 - 1, 0, most}, []uint64{1<<60 + 1, 1<<60 + 2, 1<<63 - 1}},
		{greatest, []uint64{1<<63 - 2, 0, 1 << 63, most}, []uint64{1<<63 - 1}},
		{-1, []uint64{most - 1, 1 << 63}, []uint64{most, 0, 1, 1<<63 - 1}},
		{-2, []uint64{most - 2, 1 << 63}, []uint64{most - 1, most, 0, 1<<63 - 1}},
		{least + 1, []uint64{1 << 63}, []uint64{1<<63 + 1, most, 0, 1, 1<<63 - 1}},
		{least, nil, []uint64{1 << 63, 1<<63 + 1, most, 0, 1, 1<<63 - 1}},
	} {
		for thread := range 3 {
			for _, now := range row.not {
				k := Park(small, thread, row.until)
				goes(t, k, move{load(10 + thread), 0}, move{clock, now}, move{load(10 + thread), 0}, move{clock, now})
				asks(t, k, load(10+thread))
			}
			for _, now := range row.yet {
				whole(t, Park(small, thread, row.until), move{load(10 + thread), 0}, move{clock, now})
			}
		}
	}
}

// 29.1: of each time till which it waits, each word of the clock that is held against it, in the first round and behind some: it is done just if that time has come, and else the semaphore is next.
func TestEachTime(t *testing.T) {
	for _, p := range []api.Plan{{Threads: 1, Slots: 1, Levels: 1}, small, {Threads: 8, Slots: 64, Levels: 8, Gen: 1<<32 - 1}, {Threads: 9}, {}} {
		for _, thread := range []int{0, p.Threads - 1, p.Threads, -1} {
			for _, until := range untils {
				for _, ahead := range [][]uint64{nil, still(until)} {
					for _, now := range timesOf(until) {
						k := Park(p, thread, until)
						goes(t, k, rounds(p, thread, append(ahead, now)...)...)
						if come(now, until) {
							ended(t, k)
							continue
						}
						asks(t, k, load(semAt(p, thread)))
					}
				}
			}
		}
	}
}

// 29.1: whatever word the Load of the semaphore finds that is not 0, whatever the Add finds behind it, in the first round and behind some: it is done behind the Add.
func TestEachSemaphore(t *testing.T) {
	for _, until := range untils {
		for _, ahead := range [][]uint64{nil, still(until)} {
			for _, s := range append(timesOf(until), 1<<33, 1<<40, 1<<62) {
				if s == 0 {
					continue
				}
				for _, found := range []uint64{0, 1, 2, s - 1, s, s + 1, 1 << 63, wordOf(until), most} {
					whole(t, Park(small, 1, until), append(rounds(small, 1, ahead...), woken(small, 1, s, found)...)...)
				}
			}
		}
	}
	for bit := range 64 {
		whole(t, Park(small, 2, 5), woken(small, 2, 1<<bit, 0)...)
		whole(t, Park(small, 2, 5), woken(small, 2, most<<bit, most)...)
	}
}

// 29.1: of all threads of plans that are right and of such as are not, and of threads that there are not, at the places of chapter 8's sums: the same steps.
func TestPlansAndThreads(t *testing.T) {
	for _, p := range allPlans() {
		for _, thread := range threadsOf(p) {
			for _, until := range []int{least, -1, 0, 5, never, greatest} {
				whole(t, Park(p, thread, until), woken(p, thread, 1, 0)...)
				whole(t, Park(p, thread, until), woken(p, thread, most, most)...)
				whole(t, Park(p, thread, until), rounds(p, thread, wordOf(until))...)
				if until == least {
					continue
				}
				early := wordOf(until - 1)
				whole(t, Park(p, thread, until), rounds(p, thread, early, early, 1<<63, wordOf(until))...)
				whole(t, Park(p, thread, until), append(rounds(p, thread, early, 1<<63), woken(p, thread, 2, 3)...)...)
			}
		}
	}
}

// 29.1: many rounds, one behind the other, and still it goes on; then it ends like one that has just begun.
func TestManyRounds(t *testing.T) {
	for _, until := range []int{least + 1, -1, 0, 1, 5, never, greatest} {
		k, late := Park(small, 0, until), Park(small, 2, until)
		times := still(until)
		for n := range 20000 {
			now := times[n%len(times)]
			goes(t, k, rounds(small, 0, now)...)
			goes(t, late, rounds(small, 2, now)...)
		}
		whole(t, k, woken(small, 0, 1, 0)...)
		whole(t, late, rounds(small, 2, wordOf(until))...)
	}
}

// courses are the steps of parkers of the thread 1 of small, till 5, that are done at their end.
func courses() [][]move {
	return [][]move{
		woken(small, 1, 2, 2),
		woken(small, 1, most, 0),
		rounds(small, 1, 5),
		rounds(small, 1, 4, most, 9),
		append(rounds(small, 1, 0, 4, 1<<63), woken(small, 1, 1, 7)...),
	}
}

// 29.1: asking changes nothing, however often: ahead of the first step, at each kind of step, and at the end.
func TestAskingChangesNothing(t *testing.T) {
	for _, l := range courses() {
		k := Park(small, 1, 5)
		for _, s := range l {
			for range 400 {
				asks(t, k, s.asked)
			}
			k.Tell(s.found)
		}
		for range 50 {
			ended(t, k)
		}
	}
}

// 29.1: a task is told ahead of being asked, and goes on all the same.
func TestTellAheadOfNext(t *testing.T) {
	for _, l := range courses() {
		for n := range l {
			k := Park(small, 1, 5)
			for _, s := range l[:n] {
				k.Tell(s.found)
			}
			asks(t, k, l[n].asked)
		}
		k := Park(small, 1, 5)
		for _, s := range l {
			k.Tell(s.found)
		}
		ended(t, k)
	}
	for _, p := range allPlans() {
		for _, thread := range threadsOf(p) {
			k := Park(p, thread, 5)
			k.Tell(3)
			asks(t, k, take(semAt(p, thread)))
			k.Tell(0)
			ended(t, k)
			k = Park(p, thread, 5)
			k.Tell(0)
			asks(t, k, clock)
			k.Tell(4)
			asks(t, k, load(semAt(p, thread)))
		}
	}
}

// 29.1 and R7: a parker that is nil, or that no call made, is done, stays so, and does nothing.
func TestTasksThatNoCallMade(t *testing.T) {
	var none *Parker
	for _, k := range []*Parker{none, {}, new(Parker)} {
		for _, w := range words {
			k.Tell(w)
		}
		ended(t, k)
		c := made(t, small, 4, 7, 8, 9)
		was := c.Words()
		plays(t, c, k)
		stands(t, c, was)
	}
}

// 29.1: each parker goes its own way, of the same plan, thread and time and of others.
func TestTasksAreApart(t *testing.T) {
	a, b, other := Park(small, 1, 5), Park(small, 1, 5), Park(api.Plan{Threads: 1, Slots: 1, Levels: 1}, 0, 9)
	goes(t, a, move{load(11), 0}, move{clock, 4})
	asks(t, b, load(11))
	asks(t, other, load(6))
	goes(t, b, move{load(11), 3})
	goes(t, other, move{load(6), 0}, move{clock, 8}, move{load(6), 0})
	asks(t, a, load(11))
	goes(t, b, move{take(11), 3})
	ended(t, b)
	goes(t, a, move{load(11), 0})
	asks(t, a, clock)
	goes(t, other, move{clock, 9})
	ended(t, other)
	goes(t, a, move{clock, 6})
	ended(t, a)
}

// 29.1: whatever of the words that the chapter tells apart is found at each step, up to seven of them, it goes on as the chapter's sentences say.
func TestWhateverIsFound(t *testing.T) {
	for _, until := range []int{least, least + 1, -2, -1, 0, 1, 5, never, greatest} {
		s := wordOf(until)
		choices := []uint64{0, 1, s - 1, s, s + 1, 1 << 63, most}
		for thread := range 2 {
			var l []uint64
			var fill func()
			fill = func() {
				k, slow := Park(small, thread, until), tell(small, thread, until)
				for _, found := range l {
					k.Tell(found)
					slow.Tell(found)
				}
				if !same(t, k, slow) || len(l) == 7 {
					return
				}
				for _, found := range choices {
					l = append(l, found)
					fill()
					l = l[:len(l)-1]
				}
			}
			fill()
		}
	}
}

// anyInt is a number of chance, up to a greatest one, or any.
func anyInt(r *rand.Rand, most int) int {
	if r.Intn(8) == 0 {
		return int(r.Uint64())
	}
	return r.Intn(most+4) - 2
}

// anyPlan is a plan of chance, of which a number may be any.
func anyPlan(r *rand.Rand) api.Plan {
	return api.Plan{Threads: anyInt(r, 8), Slots: anyInt(r, 64), Levels: anyInt(r, 8), Gen: r.Uint64()}
}

// anyUntil is a time of chance.
func anyUntil(r *rand.Rand) int {
	switch r.Intn(4) {
	case 0:
		return untils[r.Intn(len(untils))]
	case 1:
		return int(r.Uint64())
	}
	return r.Intn(12) - 3
}

// anyWord is a word of chance, often 0, or near the word of a time.
func anyWord(r *rand.Rand, until int) uint64 {
	switch r.Intn(4) {
	case 0:
		return r.Uint64() >> r.Intn(64)
	case 1:
		return 0
	}
	near := timesOf(until)
	return near[r.Intn(len(near))]
}

// 29.1: words of chance, of plans, threads and times of chance.
func TestWordsOfChance(t *testing.T) {
	r := rand.New(rand.NewSource(29))
	takes, times, again := 0, 0, 0
	for range 60000 {
		p, thread, until := anyPlan(r), anyInt(r, 8), anyUntil(r)
		k, s := Park(p, thread, until), tell(p, thread, until)
		more := same(t, k, s)
		for n := 0; more && n < 30; n++ {
			found, was := anyWord(r, until), s.step
			k.Tell(found)
			s.Tell(found)
			switch more = same(t, k, s); {
			case more && was == 3:
				again++
			case !more && was == 3:
				times++
			case !more:
				takes++
			}
		}
		if !more {
			ended(t, k)
		}
	}
	if takes < 10000 || times < 5000 || again < 5000 {
		t.Errorf("%d took from their semaphore, %d had come to their time, and %d times it had not come", takes, times, again)
	}
}

// 29.2: alone, of each semaphore, held against each time, of each thread of up to four: in two steps, just if the semaphore is not 0, or the time has come.
func TestAloneEachWay(t *testing.T) {
	for threads := 1; threads <= 4; threads++ {
		p := api.Plan{Threads: threads, Slots: 2, Levels: 2}
		for thread := range threads {
			for _, until := range untils {
				for _, now := range timesOf(until) {
					for _, s := range []uint64{0, 1, 2, 1 << 63, most, now} {
						for _, others := range []uint64{0, 1, most} {
							sems := slices.Repeat([]uint64{others}, threads)
							sems[thread] = s
							alone(t, made(t, p, now, sems...), p, thread, until)
						}
					}
				}
			}
		}
	}
}

// 29.2: alone, of all right plans and each of their threads.
func TestAloneOfAllPlans(t *testing.T) {
	for _, p := range rightPlans() {
		for thread := range p.Threads {
			for _, until := range []int{least, -1, 0, 1, 5, never - 1, never, greatest} {
				for _, now := range []uint64{0, 4, 5, never - 1, never, 1<<63 - 1, 1 << 63, most} {
					for _, s := range []uint64{0, 1, 2, most} {
						c := made(t, p, now)
						c.Store(semAt(p, thread), s)
						alone(t, c, p, thread, until)
					}
				}
			}
		}
	}
}

// 29.2: alone, of words of chance, whatever stands in all words of the memory.
func TestAloneOfChance(t *testing.T) {
	r := rand.New(rand.NewSource(292))
	for range 20000 {
		p := api.Plan{Threads: 1 + r.Intn(8), Slots: 1 + r.Intn(4), Levels: 1 + r.Intn(8), Gen: uint64(r.Uint32())}
		until := anyUntil(r)
		c := made(t, p, 0)
		for at := range c.Words() {
			c.Store(at, anyWord(r, until))
		}
		alone(t, c, p, r.Intn(p.Threads), until)
	}
}

// 29.2: the thread's semaphore and the clock alone say whether it is done: the other threads' semaphores, till when they sleep, where they are pinned, and all other words have no part in it.
func TestOtherWordsHaveNoPart(t *testing.T) {
	for _, p := range rightPlans() {
		for thread := range p.Threads {
			for _, w := range []uint64{0, 1, 9, most} {
				for _, s := range []uint64{0, 2} {
					for _, now := range []uint64{4, 5} {
						c := made(t, p, 0)
						for at := range c.Words() {
							c.Store(at, w)
						}
						c.Store(1, now)
						c.Store(semAt(p, thread), s)
						alone(t, c, p, thread, 5)
					}
				}
			}
		}
	}
}

// 29.2: alone again and again, each takes one, as long as there is one; then the time alone ends it.
func TestAgainAndAgain(t *testing.T) {
	c := made(t, small, 4, 1, 5, 2)
	for n := uint64(5); n > 0; n-- {
		plays(t, c, Park(small, 1, 9), n, n)
	}
	plays(t, c, Park(small, 1, 4), 0, 4)
	k := Park(small, 1, 9)
	stays(t, c, k, 4)
	c.Store(1, 9)
	plays(t, c, k, 0, 9)
	if got := c.Words()[10:13]; !slices.Equal(got, []uint64{1, 0, 2}) {
		t.Errorf("%v stand as semaphores", got)
	}
}

// 29.1: one who goes on for as long as it is not woken goes on at its next look at the semaphore, and takes just one, however often it was woken; one whose time has come by then is done at its next look at the clock.
func TestWordsTurnBetween(t *testing.T) {
	c := made(t, small, 4, 0, 0, 7)
	k := Park(small, 1, 9)
	stays(t, c, k, 4)
	task.Play(c, k, 1)
	c.Store(11, 3) // It was found not woken, so the clock is next all the same.
	if l := task.Play(c, k, 1); !slices.Equal(l, []uint64{4}) {
		t.Fatalf("%v was found", l)
	}
	if l := task.Play(c, k, 1); !slices.Equal(l, []uint64{3}) {
		t.Fatalf("%v was found", l)
	}
	c.Store(11, 6) // Somebody woke it again.
	plays(t, c, k, 6)
	k = Park(small, 0, 9)
	task.Play(c, k, 1)
	c.Store(10, 1)
	c.Store(1, 9) // The time has come, so it is done, though it was woken, too.
	plays(t, c, k, 9)
	k = Park(small, 2, 9)
	task.Play(c, k, 1)
	c.Store(12, 0) // Somebody who must not took from it: a word goes round below 0.
	plays(t, c, k, 0)
	if got := c.Words()[10:13]; !slices.Equal(got, []uint64{1, 5, most}) {
		t.Errorf("%v stand as semaphores", got)
	}
}

// 29.1: a thread that sleeps till a later time is woken by layer 28, and goes on then; one that sleeps till an earlier one stays.
func TestWokenByAWaker(t *testing.T) {
	c := made(t, small, 4)
	c.Store(7, 10) // The thread 0 sleeps till 9, the thread 2 till 5.
	c.Store(9, 6)
	a, b := Park(small, 0, 9), Park(small, 2, 5)
	stays(t, c, a, 4)
	stays(t, c, b, 4)
	task.Play(c, wake.Wake(small, 6), 99)
	stays(t, c, b, 4)
	plays(t, c, a, 1, 1)
	task.Play(c, wake.Wake(small, 4), 99)
	plays(t, c, b, 1, 1)
	if got := c.Words()[10:13]; !slices.Equal(got, []uint64{1, 0, 0}) {
		t.Errorf("%v stand as semaphores", got)
	}
}

// 29.1: threads that park by turns, in ways of chance, while somebody wakes them and the time goes on, against what stands by the chapter's sentences.
func TestInTurns(t *testing.T) {
	r := rand.New(rand.NewSource(291))
	takes, ends := 0, 0
	for _, p := range rightPlans() {
		c := made(t, p, 0)
		stand := c.Words()
		fast, slow := make([]*Parker, p.Threads), make([]*tale, p.Threads)
		for range 400 {
			switch thread := r.Intn(p.Threads); r.Intn(20) {
			case 0, 1:
				stand[semAt(p, thread)]++
				c.Store(semAt(p, thread), stand[semAt(p, thread)])
			case 2:
				stand[1] += uint64(r.Intn(3))
				c.Store(1, stand[1])
			}
			i := r.Intn(p.Threads)
			if fast[i] == nil {
				until := int(stand[1]) + r.Intn(20) - 2
				fast[i], slow[i] = Park(p, i, until), tell(p, i, until)
			}
			d, _ := slow[i].Next()
			found := stand[d.At]
			if d.Kind == 4 {
				stand[d.At]--
				takes++
			}
			if l := task.Play(c, fast[i], 1); !slices.Equal(l, []uint64{found}) {
				t.Fatalf("%v was found at one step, not %d", l, found)
			}
			stands(t, c, stand)
			slow[i].Tell(found)
			if !same(t, fast[i], slow[i]) {
				ended(t, fast[i])
				fast[i], slow[i] = nil, nil
				ends++
			}
		}
		for thread := range p.Threads {
			if stand[semAt(p, thread)] > 1<<32 {
				t.Fatalf("the semaphore of %d went below 0, though nobody else takes from it", thread)
			}
		}
	}
	if takes < 3000 || ends < takes+1000 {
		t.Errorf("%d took from their semaphore, and %d were done", takes, ends)
	}
}

// 29.1: where a plan is not right, or there is no such thread, the words are those at which its sums put them, be it the clock itself, and 0 where there is none.
func TestMemoryOfPlansThatAreNotRight(t *testing.T) {
	r := rand.New(rand.NewSource(293))
	for _, p := range append(wrongPlans(), small) {
		for _, thread := range threadsOf(p) {
			for range 4 {
				l := make([]uint64, r.Intn(60))
				for at := range l {
					l[at] = uint64(r.Intn(3))
				}
				c, err := cells.Of(l)
				if err != api.OK {
					t.Fatalf("no memory: %d", err)
				}
				other, _ := cells.Of(l)
				until := r.Intn(4)
				k, s := Park(p, thread, until), tell(p, thread, until)
				found, want := task.Play(c, k, 20), task.Play(other, s, 20)
				if !slices.Equal(found, want) {
					t.Fatalf("%v was found, not %v", found, want)
				}
				if !same(t, k, s) {
					ended(t, k)
				}
				stands(t, c, other.Words())
			}
		}
	}
	for _, thread := range []int{-3, -4} {
		c, _ := cells.Of([]uint64{2, 3})
		plays(t, c, Park(api.Plan{}, thread, 9), uint64(thread+6), uint64(thread+6))
		if got := c.Load(thread + 4); got != uint64(thread+5) {
			t.Errorf("%d stands where the sum puts the semaphore of %d", got, thread)
		}
	}
}

// 29.1: where there is no memory each Load finds 0, so it is done if until is 0 or below, and else goes on.
func TestNoMemory(t *testing.T) {
	for _, c := range []*cells.Cells{nil, new(cells.Cells)} {
		for _, p := range allPlans() {
			for _, until := range untils {
				if until <= 0 {
					plays(t, c, Park(p, 0, until), 0, 0)
					continue
				}
				stays(t, c, Park(p, 0, until), 0)
			}
		}
	}
}
