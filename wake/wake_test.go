package wake

import (
	"math"
	"math/rand"
	"slices"
	"testing"

	"sundial/api"
	"sundial/blank"
	"sundial/cells"
	"sundial/task"
)

// never is 2^60 + 1, and least and greatest are the least and the greatest int.
const (
	never    = 1152921504606846977
	least    = -9223372036854775808
	greatest = 9223372036854775807
)

// most is the greatest word.
const most = 18446744073709551615

// words are the edges of a word; from 1<<63 on they are ints below 0.
var words = []uint64{0, 1, 2, 3, 4, 5, 6, 7, 9, 10, 1<<31 - 1, 1 << 31, 1<<32 - 1, 1 << 32, 1<<32 + 1, 1<<32 + 6, never - 1, never, never + 1, never + 2, 1<<63 - 1, 1 << 63, 1<<63 + 1, 1<<63 + 6, most - 6, most - 1, most}

// deadlines are the edges of a deadline.
var deadlines = []int{least, least + 1, -never, -1<<32 - 1, -1 << 32, -7, -3, -2, -1, 0, 1, 2, 5, 1<<31 - 1, 1 << 31, 1<<32 - 1, 1 << 32, never - 2, never - 1, never, never + 1, greatest - 1, greatest}

// small is a plan of which the threads' words Sleep are at 7, 8 and 9, and their words Sem at 10, 11 and 12.
var small = api.Plan{Threads: 3, Slots: 2, Levels: 4, Gen: 6}

// sleepsOf are words Sleep held against a deadline: 0, 1, one below the word of the deadline and 1, that word, one above, 2^63, the greatest word, and those that are near or have bits in common with it.
func sleepsOf(deadline int) []uint64 {
	s := limit(deadline)
	return append([]uint64{0, 1, s - 1, s, s + 1, s - 2, s + 2, 1 << 63, most, ^s, -s, s ^ 1<<31, s ^ 1<<32, s ^ 1<<62, s ^ 1<<63, s & (1<<32 - 1), s >> 1, s << 1}, words...)
}

// limit is the word of a deadline and 1, for which the word of -1 is the greatest one, behind which comes 0.
func limit(deadline int) uint64 {
	if deadline == -1 {
		return 0
	}
	if deadline < 0 {
		return most - uint64(-(deadline + 2))
	}
	return uint64(deadline) + 1
}

// late tells whether a thread whose word Sleep is s is woken by a timer of a deadline, by the chapter's sentence: s is not 0, and the word of the deadline and 1 is below it.
func late(s uint64, deadline int) bool {
	return s != 0 && limit(deadline) < s
}

// rightPlans are such of which each number is the least, one between, or the greatest, with each number of threads.
func rightPlans() []api.Plan {
	var l []api.Plan
	for threads := 1; threads <= 8; threads++ {
		for _, slots := range []int{1, 3, 64} {
			for _, levels := range []int{1, 4, 8} {
				for _, gen := range []uint64{0, 1, 1<<32 - 1} {
					l = append(l, api.Plan{Threads: threads, Slots: slots, Levels: levels, Gen: gen})
				}
			}
		}
	}
	return l
}

// wrongPlans are those of which one number alone is none that there is, and those of which all are.
func wrongPlans() []api.Plan {
	l := []api.Plan{{}, {Threads: -1, Slots: -1, Levels: -1}, {Threads: 9, Slots: 65, Levels: 9, Gen: 1 << 32}, {Threads: 10, Slots: 1, Levels: 1}, {Threads: 40, Slots: 1, Levels: 1}}
	for _, n := range []int{math.MinInt, math.MinInt + 1, math.MinInt32, -1 << 32, -1<<32 + 3, -256 + 3, -2, -1, 0} {
		l = append(l, api.Plan{Threads: n, Slots: 3, Levels: 4}, api.Plan{Threads: n, Slots: n, Levels: n, Gen: math.MaxUint64})
	}
	for _, n := range []int{math.MinInt, -1 << 32, -1, 0, 65, 1 << 32, 1<<32 + 1, math.MaxInt} {
		l = append(l, api.Plan{Threads: 2, Slots: n, Levels: 4}, api.Plan{Threads: 2, Slots: 3, Levels: n}, api.Plan{Threads: 2, Slots: n, Levels: n, Gen: math.MaxUint64})
	}
	for _, gen := range []uint64{1 << 32, 1<<32 + 1, 1 << 63, math.MaxUint64} {
		l = append(l, api.Plan{Threads: 2, Slots: 3, Levels: 4, Gen: gen})
	}
	return l
}

// allPlans are those that are right, and those that are not.
func allPlans() []api.Plan {
	return append(rightPlans(), wrongPlans()...)
}

// sleepAt and semAt tell where a thread's words stand, by chapter 8's sums.
func sleepAt(p api.Plan, thread int) int { return 4 + p.Threads + thread }
func semAt(p api.Plan, thread int) int   { return 4 + 2*p.Threads + thread }

// The two deeds, in the numbers of their kinds: a Load of a place, and an Add of 1 to one.
func load(at int) api.Deed { return api.Deed{Kind: 1, At: at} }
func add(at int) api.Deed  { return api.Deed{Kind: 4, At: at, A: 1} }

// move is a deed that is asked for, and what is told then.
type move struct {
	asked api.Deed
	found uint64
}

// asks asks whether a waker asks for d, again and again.
func asks(t *testing.T, k *Waker, d api.Deed) {
	t.Helper()
	for range 3 {
		if got, more := k.Next(); got != d || !more {
			t.Fatalf("%+v is asked for (%v), not %+v", got, more, d)
		}
	}
}

// goes asks whether a waker asks for the deeds of l, and tells it what is found.
func goes(t *testing.T, k *Waker, l ...move) {
	t.Helper()
	for _, s := range l {
		asks(t, k, s.asked)
		k.Tell(s.found)
	}
}

// ended asks whether a waker is done, and stays so, whatever it is told.
func ended(t *testing.T, k *Waker) {
	t.Helper()
	for _, found := range append(words, 0, most, 0) {
		if got, more := k.Next(); got != (api.Deed{}) || more {
			t.Fatalf("%+v is asked for (%v) by a task that is done", got, more)
		}
		k.Tell(found)
	}
	if got, more := k.Next(); got != (api.Deed{}) || more {
		t.Fatalf("a task that is done went on to %+v (%v)", got, more)
	}
}

// course are the steps by which Wake goes, where the threads' words Sleep are those of sleeps, and the Add of each that is woken finds one of sems by turns.
func course(p api.Plan, deadline int, sleeps, sems []uint64) []move {
	var l []move
	for thread, s := range sleeps {
		l = append(l, move{load(sleepAt(p, thread)), s})
		if late(s, deadline) {
			l = append(l, move{add(semAt(p, thread)), sems[thread%len(sems)]})
		}
	}
	return l
}

// whole asks whether Wake goes by its course, and is done then.
func whole(t *testing.T, p api.Plan, deadline int, sleeps []uint64, sems ...uint64) {
	t.Helper()
	k := Wake(p, deadline)
	goes(t, k, course(p, deadline, sleeps, sems)...)
	ended(t, k)
}

// level are as many words as a plan has threads, each of which is one of l by turns.
func level(p api.Plan, l ...uint64) []uint64 {
	var some []uint64
	for thread := 0; thread < p.Threads; thread++ {
		some = append(some, l[thread%len(l)])
	}
	return some
}

// tale is the task that Wake comes to by the chapter's sentences: at is the number of the step.
type tale struct {
	plan         api.Plan
	deadline     int
	thread, step int
}

// tell makes the tale of a waker.
func tell(p api.Plan, deadline int) *tale { return &tale{plan: p, deadline: deadline, step: 1} }

func (s *tale) Next() (api.Deed, bool) {
	switch {
	case s.thread >= s.plan.Threads:
		return api.Deed{}, false
	case s.step == 1:
		return load(sleepAt(s.plan, s.thread)), true
	}
	return add(semAt(s.plan, s.thread)), true
}

func (s *tale) Tell(found uint64) {
	switch {
	case s.thread >= s.plan.Threads:
	case s.step == 1 && late(found, s.deadline):
		s.step = 2
	default:
		s.step = 1
		s.thread++
	}
}

// same asks whether a waker stands where its tale does, and tells whether it goes on.
func same(t *testing.T, k *Waker, s *tale) bool {
	t.Helper()
	want, more := s.Next()
	if got, ok := k.Next(); got != want || ok != more {
		t.Fatalf("Wake of %+v and %d asks for %+v (%v), not for %+v", s.plan, s.deadline, got, ok, want)
	}
	return more
}

// made makes the memory at the beginning of a right plan, but for the threads' words Sleep and Sem.
func made(t *testing.T, p api.Plan, sleeps, sems []uint64) *cells.Cells {
	t.Helper()
	c, err := blank.Make(p)
	if err != api.OK {
		t.Fatalf("no memory of %+v: %d", p, err)
	}
	for thread, s := range sleeps {
		c.Store(sleepAt(p, thread), s)
	}
	for thread, s := range sems {
		c.Store(semAt(p, thread), s)
	}
	return c
}

// stands asks whether a memory has just these words.
func stands(t *testing.T, c *cells.Cells, l []uint64) {
	t.Helper()
	if got := c.Words(); !slices.Equal(got, l) {
		t.Fatalf("%v stand, not %v", got, l)
	}
}

// plays asks whether a waker, done alone to a memory, finds just these words, and is done then.
func plays(t *testing.T, c *cells.Cells, k *Waker, found ...uint64) {
	t.Helper()
	if got := task.Play(c, k, 999); !slices.Equal(got, found) {
		t.Fatalf("%v was found, not %v", got, found)
	}
	ended(t, k)
}

// alone asks whether a waker, done alone to a memory of a plan, lets just the semaphores go up, by one, of those who sleep till a later deadline, and turns no other word.
func alone(t *testing.T, c *cells.Cells, p api.Plan, deadline int) {
	t.Helper()
	stand := c.Words()
	var found []uint64
	for thread := range p.Threads {
		s := stand[sleepAt(p, thread)]
		found = append(found, s)
		if late(s, deadline) {
			found = append(found, stand[semAt(p, thread)])
			stand[semAt(p, thread)]++
		}
	}
	plays(t, c, Wake(p, deadline), found...)
	stands(t, c, stand)
}

// 28.1 and 28.2: the chapter's example: of threads that sleep till 9 and till 3 a timer of the deadline 5 wakes the first one.
func TestExample(t *testing.T) {
	p := api.Plan{Threads: 2, Slots: 3, Levels: 4}
	c := made(t, p, []uint64{10, 4}, nil)
	stand := c.Words()
	plays(t, c, Wake(p, 5), 10, 0, 4)
	stand[8] = 1
	stands(t, c, stand)
	if got := c.Words()[6:10]; !slices.Equal(got, []uint64{10, 4, 1, 0}) {
		t.Errorf("%v stand where the threads sleep, and as their semaphores", got)
	}
}

// 28.1: each deed in the names of api's, at places in numbers: its kind, place, A, B and By.
func TestDeedsByName(t *testing.T) {
	k := Wake(small, 5)
	goes(t, k,
		move{api.Deed{Kind: api.Load, At: 7}, 7},
		move{api.Deed{Kind: api.Add, At: 10, A: 1}, 9},
		move{api.Deed{Kind: api.Load, At: 8}, 6},
		move{api.Deed{Kind: api.Load, At: 9}, most},
		move{api.Deed{Kind: api.Add, At: 12, A: 1}, 0})
	ended(t, k)
	k = Wake(api.Plan{Threads: 1, Slots: 1, Levels: 1}, 0)
	goes(t, k, move{api.Deed{Kind: api.Load, At: 5}, 2}, move{api.Deed{Kind: api.Add, At: 6, A: 1}, 3})
	ended(t, k)
	k = Wake(api.Plan{Threads: 8, Slots: 64, Levels: 8}, 0)
	for thread := range 8 {
		goes(t, k, move{api.Deed{Kind: api.Load, At: 12 + thread}, 2}, move{api.Deed{Kind: api.Add, At: 20 + thread, A: 1}, 3})
	}
	ended(t, k)
}

// 28.1: of each edge of a deadline, in numbers, the last word Sleep by which nobody is woken, and the first one by which somebody is.
func TestDeadlines(t *testing.T) {
	for _, row := range []struct {
		deadline int
		limit    uint64
	}{
		{0, 1}, {1, 2}, {2, 3}, {5, 6}, {1<<32 - 1, 4294967296}, {1 << 32, 4294967297},
		{api.MaxTime, 1152921504606846977}, {api.Never, 1152921504606846978},
		{math.MaxInt - 1, 9223372036854775807}, {math.MaxInt, 9223372036854775808},
		{-1, 0}, {-2, 18446744073709551615}, {-3, 18446744073709551614},
		{math.MinInt, 9223372036854775809}, {math.MinInt + 1, 9223372036854775810},
	} {
		if got := limit(row.deadline); got != row.limit {
			t.Fatalf("the test's own word of %d and 1 is %d", row.deadline, got)
		}
		for thread := range 3 {
			k := Wake(small, row.deadline)
			for n := range thread {
				goes(t, k, move{load(7 + n), 0})
			}
			goes(t, k, move{load(7 + thread), row.limit})
			for n := thread + 1; n < 3; n++ {
				goes(t, k, move{load(7 + n), 0})
			}
			ended(t, k)
			if row.limit == most {
				// No word is above it, so nobody is woken.
				continue
			}
			sleeps := make([]uint64, 3)
			sleeps[thread] = row.limit + 1
			k = Wake(small, row.deadline)
			for n, s := range sleeps {
				goes(t, k, move{load(7 + n), s})
				if n == thread {
					goes(t, k, move{add(10 + n), most})
				}
			}
			ended(t, k)
		}
	}
}

// 28.1: of each deadline, each word Sleep that is held against it, of each thread, whatever those of the others are, and whatever each Add finds.
func TestEachSleep(t *testing.T) {
	for _, p := range []api.Plan{{Threads: 1, Slots: 1, Levels: 1}, small, {Threads: 8, Slots: 64, Levels: 8, Gen: 1<<32 - 1}, {Threads: 9}} {
		for _, deadline := range deadlines {
			s := limit(deadline)
			for _, others := range [][]uint64{{0}, {s}, {s + 1}, {most}, {1, s - 1, 1 << 63, s + 1}} {
				for thread := range p.Threads {
					for i, w := range sleepsOf(deadline) {
						sleeps := level(p, others...)
						sleeps[thread] = w
						whole(t, p, deadline, sleeps, words[i%len(words)], s, 0, most)
					}
				}
			}
		}
	}
}

// 28.1: whatever an Add finds, the next thread comes behind it, with its own Load.
func TestWhateverAnAddFinds(t *testing.T) {
	for _, deadline := range deadlines {
		if limit(deadline) == most {
			continue
		}
		for _, found := range sleepsOf(deadline) {
			k := Wake(small, deadline)
			goes(t, k,
				move{load(7), most}, move{add(10), found},
				move{load(8), 0},
				move{load(9), most}, move{add(12), found})
			ended(t, k)
			whole(t, small, deadline, []uint64{most, most, most}, found)
		}
	}
}

// 28.1: of plans that are right and such as are not, each of as many threads as it says, of none where it says none or fewer, at the places of chapter 8's sums, whatever the other numbers are.
func TestPlans(t *testing.T) {
	for _, p := range allPlans() {
		for _, deadline := range deadlines {
			s := limit(deadline)
			whole(t, p, deadline, level(p, 0), 0)
			whole(t, p, deadline, level(p, s), 0)
			whole(t, p, deadline, level(p, s+1), 5)
			whole(t, p, deadline, level(p, most, 0, s+1, s, 1), most, 0)
			if p.Threads < 1 {
				ended(t, Wake(p, deadline))
			}
		}
	}
}

// 28.1: of more threads than there may be it goes on for as many as the plan says.
func TestMoreThreadsThanThereMayBe(t *testing.T) {
	for _, threads := range []int{9, 64, 1000, 4093} {
		p := api.Plan{Threads: threads, Slots: 1, Levels: 1}
		whole(t, p, 5, level(p, 7, 6, 0), 9)
		whole(t, p, 5, level(p, 6), 9)
	}
	for _, threads := range []int{1<<32 + 1, 1 << 33, 1 << 62, math.MaxInt - 4, math.MaxInt} {
		p := api.Plan{Threads: threads, Slots: 1, Levels: 1}
		k, s := Wake(p, 5), tell(p, 5)
		for n := range 20000 {
			if !same(t, k, s) || s.thread < n/2 {
				t.Fatalf("behind %d steps it is at the thread %d", n, s.thread)
			}
			k.Tell(uint64(n) % 11)
			s.Tell(uint64(n) % 11)
		}
	}
}

// 28.1: of as many threads as the greatest int the last ones come like the first ones, and then it is done, be it that somebody goes on so long.
func TestLastOfAsManyAsTheGreatestInt(t *testing.T) {
	for _, threads := range []int{math.MaxInt, math.MaxInt - 1, 1<<62 + 1} {
		for _, sleeps := range [][]uint64{{7, 7, 7}, {0, 6, 1}, {7, 0, 7}, {0, 7, 6}} {
			p := api.Plan{Threads: threads}
			k, s := Wake(p, 5), tell(p, 5)
			s.thread = threads - 3
			k.turn = 2 * turn(s.thread)
			for _, found := range sleeps {
				for n := s.thread; s.thread == n; {
					same(t, k, s)
					k.Tell(found)
					s.Tell(found)
				}
			}
			ended(t, k)
		}
	}
}

// 28.1: asking changes nothing, however often: ahead of the first step, at each kind of step, and at the end.
func TestAskingChangesNothing(t *testing.T) {
	for _, sleeps := range [][]uint64{{7, 7, 7}, {0, 0, 0}, {7, 6, 8}, {1, most, 0}} {
		k := Wake(small, 5)
		for _, s := range course(small, 5, sleeps, []uint64{7, 0}) {
			for range 400 {
				asks(t, k, s.asked)
			}
			k.Tell(s.found)
		}
		for range 50 {
			ended(t, k)
		}
	}
}

// 28.1: a task is told ahead of being asked, and goes on all the same.
func TestTellAheadOfNext(t *testing.T) {
	for _, sleeps := range [][]uint64{{7, 7, 7}, {0, 0, 0}, {7, 6, 8}, {1, most, 0}} {
		l := course(small, 5, sleeps, []uint64{7, 0})
		for n := range l {
			k := Wake(small, 5)
			for _, s := range l[:n] {
				k.Tell(s.found)
			}
			asks(t, k, l[n].asked)
		}
		k := Wake(small, 5)
		for _, s := range l {
			k.Tell(s.found)
		}
		ended(t, k)
	}
	for _, p := range allPlans() {
		k := Wake(p, 0)
		for thread := 0; thread < p.Threads && thread < 99; thread++ {
			k.Tell(2)
			asks(t, k, add(semAt(p, thread)))
			k.Tell(2)
		}
		if p.Threads < 99 {
			ended(t, k)
		}
	}
}

// 28.1 and R7: a waker that is nil, or that no call made, is done, stays so, and does nothing.
func TestTasksThatNoCallMade(t *testing.T) {
	var none *Waker
	for _, k := range []*Waker{none, {}, new(Waker)} {
		for _, w := range words {
			k.Tell(w)
		}
		ended(t, k)
		c := made(t, small, []uint64{7, 8, 9}, nil)
		was := c.Words()
		plays(t, c, k)
		stands(t, c, was)
	}
}

// 28.1: each waker goes its own way, of the same plan and deadline and of others.
func TestTasksAreApart(t *testing.T) {
	a, b, other := Wake(small, 5), Wake(small, 5), Wake(api.Plan{Threads: 1, Slots: 1, Levels: 1}, 9)
	goes(t, a, move{load(7), 7}, move{add(10), 0}, move{load(8), 6})
	asks(t, b, load(7))
	asks(t, other, load(5))
	goes(t, b, move{load(7), 0}, move{load(8), 7})
	goes(t, other, move{load(5), 10})
	asks(t, a, load(9))
	ended(t, other)
	goes(t, b, move{add(11), 7}, move{load(9), 6})
	ended(t, b)
	goes(t, a, move{load(9), most})
	asks(t, a, add(12))
}

// 28.1: whatever of the words that the chapter tells apart is found at each step, of up to five threads, it goes on as the chapter's sentences say.
func TestWhateverIsFound(t *testing.T) {
	for _, deadline := range []int{least, -3, -2, -1, 0, 1, 5, never, greatest} {
		s := limit(deadline)
		choices := []uint64{0, 1, s - 1, s, s + 1, 1 << 63, most}
		for threads := range 6 {
			p := api.Plan{Threads: threads, Slots: 1, Levels: 1}
			var l []uint64
			var fill func()
			fill = func() {
				k, slow := Wake(p, deadline), tell(p, deadline)
				for _, found := range l {
					k.Tell(found)
					slow.Tell(found)
				}
				if !same(t, k, slow) || len(l) == 5 {
					return
				}
				for _, found := range choices {
					l = append(l, found)
					fill()
					l = l[:len(l)-1]
				}
			}
			fill()
		}
	}
}

// anyPlan is a plan of chance, of which a number may be any.
func anyPlan(r *rand.Rand) api.Plan {
	n := func(most int) int {
		if r.Intn(8) == 0 {
			return int(r.Uint64())
		}
		return r.Intn(most+4) - 2
	}
	return api.Plan{Threads: n(8), Slots: n(64), Levels: n(8), Gen: r.Uint64()}
}

// anyDeadline is a deadline of chance.
func anyDeadline(r *rand.Rand) int {
	switch r.Intn(4) {
	case 0:
		return deadlines[r.Intn(len(deadlines))]
	case 1:
		return int(r.Uint64())
	}
	return r.Intn(12) - 3
}

// anySleep is a word Sleep of chance, often near the word of a deadline and 1.
func anySleep(r *rand.Rand, deadline int) uint64 {
	if r.Intn(3) == 0 {
		return r.Uint64() >> r.Intn(64)
	}
	near := sleepsOf(deadline)
	return near[r.Intn(len(near))]
}

// 28.1: words of chance, of plans and deadlines of chance.
func TestWordsOfChance(t *testing.T) {
	r := rand.New(rand.NewSource(28))
	wakes, passes, ends := 0, 0, 0
	for range 20000 {
		p, deadline := anyPlan(r), anyDeadline(r)
		k, s := Wake(p, deadline), tell(p, deadline)
		more := same(t, k, s)
		for n := 0; more && n < 30; n++ {
			found, was := anySleep(r, deadline), s.step
			k.Tell(found)
			s.Tell(found)
			switch more = same(t, k, s); {
			case s.step == 2:
				wakes++
			case was == 1:
				passes++
			}
		}
		if !more {
			ended(t, k)
			ends++
		}
	}
	if wakes < 20000 || passes < 20000 || ends < 5000 {
		t.Errorf("%d were woken, %d were not, and %d were done", wakes, passes, ends)
	}
}

// 28.2: alone, of up to four threads that sleep in each way there is: not, till an earlier deadline, till that one, till a later one.
func TestAloneEachWay(t *testing.T) {
	for threads := 1; threads <= 4; threads++ {
		p := api.Plan{Threads: threads, Slots: 2, Levels: 2}
		for _, deadline := range []int{least, -2, -1, 0, 1, 5, never - 1, never, greatest} {
			s := limit(deadline)
			ways := []uint64{0, 1, s - 1, s, s + 1, most}
			many := 1
			for range threads {
				many *= len(ways)
			}
			for n := range many {
				var sleeps []uint64
				for range threads {
					sleeps = append(sleeps, ways[n%len(ways)])
					n /= len(ways)
				}
				alone(t, made(t, p, sleeps, level(p, 0, 1, most)), p, deadline)
			}
		}
	}
}

// 28.2: alone, of all right plans, where all threads sleep, or none does, or one at each place sleeps longer or shorter than the others; a semaphore goes round behind the greatest word.
func TestAloneOfAllPlans(t *testing.T) {
	for _, p := range rightPlans() {
		for _, deadline := range deadlines {
			s := limit(deadline)
			for _, sleeps := range [][]uint64{{0}, {s}, {s + 1}, {most}, {s + 1, 0, s}, {never + 1}} {
				alone(t, made(t, p, level(p, sleeps...), level(p, 0, most, 1, 1<<63)), p, deadline)
			}
			for thread := range p.Threads {
				sleeps := level(p, s, 0)
				sleeps[thread] = s + 1
				alone(t, made(t, p, sleeps, nil), p, deadline)
				sleeps = level(p, s+1)
				sleeps[thread] = s
				alone(t, made(t, p, sleeps, level(p, most)), p, deadline)
			}
		}
	}
}

// 28.2: alone, by the deadlines till which the threads sleep, as far as there are such: who sleeps till a later one is woken, who sleeps till that one, or an earlier one, or not at all, is not.
func TestAloneByDeadlines(t *testing.T) {
	some := []int{0, 1, 2, 4, 5, 6, 1<<31 - 1, 1 << 32, never - 2, never - 1, never}
	for _, deadline := range some {
		for _, till := range some {
			for thread := range 3 {
				c := made(t, small, nil, nil)
				c.Store(7+thread, uint64(till+1))
				task.Play(c, Wake(small, deadline), 99)
				for n := range 3 {
					if up := c.Load(10+n) == 1; up != (n == thread && deadline < till) {
						t.Errorf("%d sleeps till %d, and by the deadline %d the semaphore of %d is %d", thread, till, deadline, n, c.Load(10+n))
					}
				}
			}
		}
	}
}

// 28.2: alone, of words of chance, whatever stands in all words of the memory.
func TestAloneOfChance(t *testing.T) {
	r := rand.New(rand.NewSource(282))
	for range 20000 {
		p := api.Plan{Threads: 1 + r.Intn(8), Slots: 1 + r.Intn(4), Levels: 1 + r.Intn(8), Gen: uint64(r.Uint32())}
		deadline := anyDeadline(r)
		c := made(t, p, nil, nil)
		for at := range c.Words() {
			c.Store(at, anySleep(r, deadline))
		}
		alone(t, c, p, deadline)
	}
}

// 28.2: the threads' words Sleep alone say who is woken: where the threads are pinned, their semaphores, the clock, and all other words have no part in it.
func TestOtherWordsWakeNobody(t *testing.T) {
	for _, p := range rightPlans() {
		for _, w := range []uint64{0, 7, most} {
			c := made(t, p, nil, nil)
			for at := range c.Words() {
				c.Store(at, w)
			}
			for thread := range p.Threads {
				c.Store(sleepAt(p, thread), uint64(6+thread%2))
			}
			alone(t, c, p, 5)
			if got := c.Load(semAt(p, 0)); got != w {
				t.Fatalf("the semaphore of who sleeps till that deadline is %d, not %d", got, w)
			}
		}
	}
}

// 28.2: alone again and again, each goes up each time, as long as its thread sleeps: its word Sleep stays as it is.
func TestAgainAndAgain(t *testing.T) {
	c := made(t, small, []uint64{10, 0, 6}, []uint64{most - 3, 4, 0})
	for n := range uint64(9) {
		plays(t, c, Wake(small, 4), 10, most-3+n, 0, 6, n)
	}
	plays(t, c, Wake(small, 5), 10, 5, 0, 6)
	plays(t, c, Wake(small, 9), 10, 0, 6)
	c.Store(7, 0)
	c.Store(8, never+1)
	plays(t, c, Wake(small, 5), 0, never+1, 4, 6)
	if got := c.Words()[7:13]; !slices.Equal(got, []uint64{0, never + 1, 6, 6, 5, 9}) {
		t.Errorf("%v stand", got)
	}
}

// 28.1: a thread is asked till when it sleeps once, when it is its turn: whatever is turned behind that is not looked at again, and what is turned ahead of it is.
func TestThreadsTurnBetween(t *testing.T) {
	c := made(t, small, []uint64{10, 0, 6}, nil)
	k := Wake(small, 5)
	task.Play(c, k, 1)
	c.Store(7, 0)  // It was found asleep, so it is woken all the same.
	c.Store(8, 9)  // It sleeps by now.
	c.Store(10, 7) // Somebody woke it, too.
	if l := task.Play(c, k, 2); !slices.Equal(l, []uint64{7, 9}) {
		t.Fatalf("%v was found", l)
	}
	c.Store(7, 10)
	c.Store(9, 7)
	plays(t, c, k, 0, 7, 0)
	if got := c.Words()[7:13]; !slices.Equal(got, []uint64{10, 9, 7, 8, 1, 1}) {
		t.Errorf("%v stand", got)
	}
}

// 28.1: many that wake by turns, in ways of chance, while threads fall asleep, wake and take from their semaphores, against what stands by the chapter's sentences.
func TestInTurns(t *testing.T) {
	r := rand.New(rand.NewSource(281))
	wakes, ends := 0, 0
	for _, p := range rightPlans() {
		c := made(t, p, nil, nil)
		stand := c.Words()
		fast, slow := make([]*Waker, 3), make([]*tale, 3)
		for range 400 {
			if thread := r.Intn(p.Threads); r.Intn(4) == 0 {
				stand[sleepAt(p, thread)] = uint64(r.Intn(12))
				stand[semAt(p, thread)] -= uint64(r.Intn(2))
				c.Store(sleepAt(p, thread), stand[sleepAt(p, thread)])
				c.Store(semAt(p, thread), stand[semAt(p, thread)])
			}
			i := r.Intn(len(fast))
			if fast[i] == nil {
				deadline := r.Intn(12) - 2
				fast[i], slow[i] = Wake(p, deadline), tell(p, deadline)
			}
			d, _ := slow[i].Next()
			found := stand[d.At]
			if d.Kind == 4 {
				stand[d.At]++
				wakes++
			}
			if l := task.Play(c, fast[i], 1); !slices.Equal(l, []uint64{found}) {
				t.Fatalf("%v was found at one step, not %d", l, found)
			}
			stands(t, c, stand)
			slow[i].Tell(found)
			if !same(t, fast[i], slow[i]) {
				ended(t, fast[i])
				fast[i], slow[i] = nil, nil
				ends++
			}
		}
	}
	if wakes < 3000 || ends < 3000 {
		t.Errorf("%d were woken, and %d were done", wakes, ends)
	}
}

// 28.1: where a plan is not right, the words are those at which its sums put them, and 0 where there is none.
func TestMemoryOfPlansThatAreNotRight(t *testing.T) {
	r := rand.New(rand.NewSource(283))
	for _, p := range wrongPlans() {
		for range 100 {
			l := make([]uint64, r.Intn(60))
			for at := range l {
				l[at] = uint64(r.Intn(12))
			}
			c, err := cells.Of(l)
			if err != api.OK {
				t.Fatalf("no memory: %d", err)
			}
			other, _ := cells.Of(l)
			k := Wake(p, 5)
			found, want := task.Play(c, k, 999), task.Play(other, tell(p, 5), 999)
			if !slices.Equal(found, want) {
				t.Fatalf("%v was found, not %v", found, want)
			}
			ended(t, k)
			stands(t, c, other.Words())
		}
	}
}

// 28.1: where there is no memory each Load finds 0, so each thread is asked, and none is woken.
func TestNoMemory(t *testing.T) {
	for _, c := range []*cells.Cells{nil, new(cells.Cells)} {
		for _, p := range allPlans() {
			for _, deadline := range deadlines {
				plays(t, c, Wake(p, deadline), level(p, 0)...)
			}
		}
	}
}
