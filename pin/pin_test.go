package pin

import (
	"math"
	"math/rand"
	"slices"
	"testing"

	"sundial/api"
	"sundial/blank"
	"sundial/cells"
	"sundial/task"
)

// words are the edges of a word: of an epoch, and of what is found.
var words = []uint64{0, 1, 2, 4, 5, 1<<31 - 1, 1 << 31, 1<<32 - 1, 1 << 32, 1<<32 + 1, 1<<63 - 1, 1 << 63, 1<<63 + 1, math.MaxUint64 - 1, math.MaxUint64}

// far are numbers of which there is none, some of which have the lowest bits of such as there are.
var far = []int{math.MinInt, math.MinInt + 1, math.MinInt + 4, math.MinInt32, -1<<32 + 1, -1 << 32, -256 + 1, -64, -5, -4, -3, -2, -1, 8, 9, 64, 255, 256, 257, 4096, 1<<31 - 1, 1 << 31, 1 << 32, 1<<32 + 1, 1 << 62, math.MaxInt - 4, math.MaxInt - 3, math.MaxInt - 1, math.MaxInt}

// small is a plan of which the threads' words Pin are at 4, 5 and 6.
var small = api.Plan{Threads: 3, Slots: 2, Levels: 4, Gen: 6}

// rightPlans are such of which each number is the least, one between, or the greatest, with each number of threads.
func rightPlans() []api.Plan {
	var l []api.Plan
	for threads := 1; threads <= 8; threads++ {
		for _, slots := range []int{1, 3, 64} {
			for _, levels := range []int{1, 4, 8} {
				for _, gen := range []uint64{0, 1, 1<<32 - 1} {
					l = append(l, api.Plan{Threads: threads, Slots: slots, Levels: levels, Gen: gen})
				}
			}
		}
	}
	return l
}

// wrongPlans are those of which one number alone is none that there is, and those of which all are.
func wrongPlans() []api.Plan {
	l := []api.Plan{{}, {Threads: -1, Slots: -1, Levels: -1}, {Threads: 9, Slots: 65, Levels: 9, Gen: 1 << 32}}
	for _, n := range []int{math.MinInt, -1 << 32, -1, 0, 65, 1 << 32, 1<<32 + 1, math.MaxInt} {
		l = append(l, api.Plan{Threads: n, Slots: 3, Levels: 4}, api.Plan{Threads: 2, Slots: n, Levels: 4}, api.Plan{Threads: 2, Slots: 3, Levels: n}, api.Plan{Threads: n, Slots: n, Levels: n, Gen: math.MaxUint64})
	}
	for _, gen := range []uint64{1 << 32, 1<<32 + 1, 1 << 63, math.MaxUint64} {
		l = append(l, api.Plan{Threads: 2, Slots: 3, Levels: 4, Gen: gen})
	}
	return l
}

// threadsOf are the threads of a plan, and such as there are not.
func threadsOf(p api.Plan) []int {
	return append([]int{0, 1, 2, 7, p.Threads - 1, p.Threads, p.Threads + 1}, far...)
}

// Both deeds, in the numbers of their kinds and places.
func loadEpoch() api.Deed { return api.Deed{Kind: 1, At: 0} }
func storePin(thread int, w uint64) api.Deed {
	return api.Deed{Kind: 2, At: 4 + thread, A: w}
}

// asks asks whether a task asks for d, again and again.
func asks(t *testing.T, k task.Task, d api.Deed) {
	t.Helper()
	for range 3 {
		if got, more := k.Next(); got != d || !more {
			t.Fatalf("%+v is asked for (%v), not %+v", got, more, d)
		}
	}
}

// ended asks whether a task is done, and stays so whatever it is told.
func ended(t *testing.T, k task.Task) {
	t.Helper()
	for _, found := range append(words, 0, 0) {
		if got, more := k.Next(); got != (api.Deed{}) || more {
			t.Fatalf("%+v is asked for (%v) by a task that is done", got, more)
		}
		k.Tell(found)
	}
	if got, more := k.Next(); got != (api.Deed{}) || more {
		t.Fatalf("a task that is done went on to %+v (%v)", got, more)
	}
}

// in asks whether a pinner tells an epoch, again and again.
func in(t *testing.T, k *Pinner, epoch uint64) {
	t.Helper()
	for range 3 {
		if got := k.Epoch(); got != epoch {
			t.Fatalf("the epoch %d is told, not %d", got, epoch)
		}
	}
}

// pins asks whether Pin does what its two steps say in an epoch, whatever its Store finds, and tells the epoch when it is done, and no sooner.
func pins(t *testing.T, p api.Plan, thread int, epoch, found uint64) {
	t.Helper()
	k := Pin(p, thread)
	in(t, k, 0)
	asks(t, k, loadEpoch())
	in(t, k, 0)
	k.Tell(epoch)
	in(t, k, 0)
	asks(t, k, storePin(thread, epoch))
	in(t, k, 0)
	k.Tell(found)
	in(t, k, epoch)
	ended(t, k)
	in(t, k, epoch)
}

// leaves asks whether Unpin does what its one step says, whatever its Store finds.
func leaves(t *testing.T, p api.Plan, thread int, found uint64) {
	t.Helper()
	k := Unpin(p, thread)
	asks(t, k, storePin(thread, 0))
	k.Tell(found)
	ended(t, k)
}

// made makes the memory at the beginning of a right plan.
func made(t *testing.T, p api.Plan) *cells.Cells {
	t.Helper()
	c, err := blank.Make(p)
	if err != api.OK {
		t.Fatalf("no memory of %+v: %d", p, err)
	}
	return c
}

// filled makes a memory of n words, each of which is another one.
func filled(t *testing.T, n int) *cells.Cells {
	t.Helper()
	c, err := cells.New(n)
	if err != api.OK {
		t.Fatalf("no memory of %d words: %d", n, err)
	}
	for at := range n {
		c.Store(at, uint64(at)+1000)
	}
	return c
}

// plays asks whether a task, done alone to a memory, finds just these words.
func plays(t *testing.T, c *cells.Cells, k task.Task, found ...uint64) {
	t.Helper()
	if got := task.Play(c, k, 99); !slices.Equal(got, found) {
		t.Fatalf("%v was found, not %v", got, found)
	}
	ended(t, k)
}

// stands asks whether a memory has just these words.
func stands(t *testing.T, c *cells.Cells, l []uint64) {
	t.Helper()
	if got := c.Words(); !slices.Equal(got, l) {
		t.Fatalf("%v stand, not %v", got, l)
	}
}

// 13.1: the chapter's example, of any plan.
func TestExample(t *testing.T) {
	for _, p := range append(rightPlans(), wrongPlans()...) {
		k := Pin(p, 1)
		asks(t, k, api.Deed{Kind: 1})
		k.Tell(4)
		asks(t, k, api.Deed{Kind: 2, At: 5, A: 4})
		k.Tell(0)
		ended(t, k)
		in(t, k, 4)

		c := filled(t, 8)
		c.Store(0, 4)
		plays(t, c, Pin(p, 1), 4, 1005)
		stands(t, c, []uint64{4, 1001, 1002, 1003, 1004, 4, 1006, 1007})
	}
}

// 13.1 and 13.2: each deed in the names of api's.
func TestDeedsByName(t *testing.T) {
	k, u := Pin(small, 2), Unpin(small, 2)
	asks(t, k, api.Deed{Kind: api.Load, At: api.AtEpoch})
	k.Tell(9)
	asks(t, k, api.Deed{Kind: api.Store, At: 6, A: 9})
	asks(t, u, api.Deed{Kind: api.Store, At: 6, A: 0})
}

// 13.1: of each thread and such as there are not, of right plans and others, in each epoch, whatever is found.
func TestPin(t *testing.T) {
	for i, p := range append(rightPlans(), wrongPlans()...) {
		for j, thread := range threadsOf(p) {
			for n, epoch := range words {
				pins(t, p, thread, epoch, words[(i+j+n)%len(words)])
			}
		}
	}
	for _, epoch := range words {
		for _, found := range words {
			pins(t, small, 2, epoch, found)
		}
	}
}

// 13.2: of each thread and such as there are not, of right plans and others, whatever is found.
func TestUnpin(t *testing.T) {
	for _, p := range append(rightPlans(), wrongPlans()...) {
		for _, thread := range threadsOf(p) {
			for _, found := range words {
				leaves(t, p, thread, found)
			}
		}
	}
}

// 13.1 and 13.2: threads of which there is none, in numbers; the places go round their ends.
func TestThreadsThatThereAreNot(t *testing.T) {
	at := map[int]int{-1: 3, -4: 0, -5: -1, 3: 7, 8: 12, 1 << 32: 4294967300, math.MaxInt - 4: math.MaxInt, math.MaxInt - 3: math.MinInt, math.MaxInt: -9223372036854775805, math.MinInt: -9223372036854775804}
	for thread, place := range at {
		k := Pin(small, thread)
		k.Tell(7)
		asks(t, k, api.Deed{Kind: 2, At: place, A: 7})
		asks(t, Unpin(small, thread), api.Deed{Kind: 2, At: place})
	}
}

// 13.1: a pinner tells its epoch when it is done, in an epoch that is 0 too, and whatever it is told further.
func TestEpoch(t *testing.T) {
	for _, epoch := range words {
		k := Pin(small, 0)
		in(t, k, 0)
		k.Tell(epoch)
		in(t, k, 0)
		k.Tell(^epoch)
		in(t, k, epoch)
		for _, found := range words {
			k.Tell(found)
			in(t, k, epoch)
		}
	}
}

// 13.1 and 13.2: asking changes nothing, however often.
func TestNextChangesNothing(t *testing.T) {
	k, u := Pin(small, 1), Unpin(small, 1)
	for range 1000 {
		asks(t, k, loadEpoch())
		asks(t, u, storePin(1, 0))
	}
	k.Tell(6)
	for range 1000 {
		asks(t, k, storePin(1, 6))
		in(t, k, 0)
	}
}

// 13.1 and 13.2: a task is told ahead of being asked, and goes on all the same.
func TestTellAheadOfNext(t *testing.T) {
	k := Pin(small, 1)
	k.Tell(8)
	asks(t, k, storePin(1, 8))
	k.Tell(3)
	ended(t, k)
	in(t, k, 8)
	k = Pin(small, 1)
	k.Tell(8)
	k.Tell(9)
	in(t, k, 8)
	ended(t, k)
	u := Unpin(small, 1)
	u.Tell(8)
	ended(t, u)
}

// 13.1, 13.2 and R7: a task that is nil, or that no call made, is done, stays so, does nothing, and tells no epoch.
func TestTasksThatNoCallMade(t *testing.T) {
	var pinner *Pinner
	var unpinner *Unpinner
	for _, k := range []task.Task{pinner, &Pinner{}, new(Pinner), unpinner, &Unpinner{}, new(Unpinner)} {
		ended(t, k)
		c := filled(t, 9)
		was := c.Words()
		plays(t, c, k)
		stands(t, c, was)
	}
	for _, k := range []*Pinner{pinner, {}, new(Pinner)} {
		in(t, k, 0)
		for _, w := range words {
			k.Tell(w)
			in(t, k, 0)
		}
	}
}

// 13.1 and 13.2: each task goes its own way, of the same thread and of others.
func TestTasksAreApart(t *testing.T) {
	a, b, other, u, v := Pin(small, 1), Pin(small, 1), Pin(small, 2), Unpin(small, 1), Unpin(small, 0)
	a.Tell(5)
	u.Tell(5)
	asks(t, a, storePin(1, 5))
	asks(t, b, loadEpoch())
	asks(t, other, loadEpoch())
	asks(t, v, storePin(0, 0))
	b.Tell(6)
	other.Tell(7)
	a.Tell(0)
	in(t, a, 5)
	in(t, b, 0)
	asks(t, b, storePin(1, 6))
	asks(t, other, storePin(2, 7))
	b.Tell(5)
	other.Tell(0)
	in(t, a, 5)
	in(t, b, 6)
	in(t, other, 7)
	ended(t, u)
	asks(t, v, storePin(0, 0))
}

// 13.1 and 13.2: alone, a thread that pinned is where the epoch was, and nowhere when it has left, in as many steps as there are, and no other word has turned.
func TestPinnedAndLeft(t *testing.T) {
	for _, p := range rightPlans() {
		for thread := range p.Threads {
			for _, epoch := range words {
				c := made(t, p)
				c.Store(0, epoch)
				begin := c.Words()
				within := slices.Clone(begin)
				within[4+thread] = epoch
				k := Pin(p, thread)
				plays(t, c, k, epoch, 0)
				in(t, k, epoch)
				stands(t, c, within)
				plays(t, c, Unpin(p, thread), epoch)
				stands(t, c, begin)
			}
		}
	}
}

// 13.1 and 13.2: a thread that is pinned is pinned anew, and one that is nowhere leaves, as the steps say.
func TestPinnedTwiceAndLeftTwice(t *testing.T) {
	c := made(t, small)
	begin := c.Words()
	plays(t, c, Unpin(small, 1), 0)
	stands(t, c, begin)
	first, second := Pin(small, 1), Pin(small, 1)
	plays(t, c, first, 1, 0)
	c.Store(0, 2)
	plays(t, c, second, 2, 1)
	in(t, first, 1)
	in(t, second, 2)
	if w := c.Load(5); w != 2 {
		t.Errorf("pinned in %d, not in 2", w)
	}
	plays(t, c, Unpin(small, 1), 2)
	plays(t, c, Unpin(small, 1), 0)
	c.Store(0, 1)
	stands(t, c, begin)
}

// 13.1: an epoch that goes on between both steps is not looked at again: the thread is pinned in the one that it found.
func TestEpochGoesOnBetween(t *testing.T) {
	c := made(t, small)
	k := Pin(small, 0)
	task.Play(c, k, 1)
	c.Store(0, 2)
	plays(t, c, k, 0)
	in(t, k, 1)
	if w := c.Load(4); w != 1 {
		t.Errorf("pinned in %d, not in 1", w)
	}
}

// 13.1 and 13.2: threads that pin and leave by turns, in ways of chance, while the epoch goes on, against what stands by the chapter's sentences.
func TestThreadsInTurns(t *testing.T) {
	r := rand.New(rand.NewSource(13))
	for _, p := range rightPlans() {
		c := made(t, p)
		stand := c.Words()
		now := make([]task.Task, p.Threads)
		epochs := make([]uint64, p.Threads) // what each thread stores next
		for range 200 {
			if r.Intn(4) == 0 {
				stand[0]++
				c.Add(0, 1)
			}
			thread := r.Intn(p.Threads)
			if now[thread] == nil && r.Intn(2) == 0 {
				now[thread], epochs[thread] = Pin(p, thread), stand[0]
				task.Play(c, now[thread], 1)
				stands(t, c, stand)
				continue
			}
			if now[thread] == nil {
				now[thread], epochs[thread] = Unpin(p, thread), 0
			}
			plays(t, c, now[thread], stand[4+thread])
			stand[4+thread] = epochs[thread]
			stands(t, c, stand)
			if k, ok := now[thread].(*Pinner); ok {
				in(t, k, epochs[thread])
			}
			now[thread] = nil
		}
	}
}

// 13.1 and 13.2: of a thread that there is not the word is turned that stands where the sum tells, if there is one, and no other.
func TestMemoryOfThreadsThatThereAreNot(t *testing.T) {
	for _, p := range append(wrongPlans(), small) {
		for _, thread := range append([]int{0, 1, 2, 3, 4, 5, 6, 7, 8}, far...) {
			c := filled(t, 20)
			stand := c.Words()
			var was uint64
			at := 4 + thread
			there := at >= 0 && at < len(stand)
			if there {
				was, stand[at] = stand[at], 1000
			}
			k := Pin(p, thread)
			plays(t, c, k, 1000, was)
			in(t, k, 1000)
			stands(t, c, stand)
			was = 0
			if there {
				was, stand[at] = stand[at], 0
			}
			plays(t, c, Unpin(p, thread), was)
			stands(t, c, stand)
		}
	}
}

// 13.1 and 13.2: where there is no memory each deed finds 0, and both are done all the same.
func TestNoMemory(t *testing.T) {
	for _, c := range []*cells.Cells{nil, new(cells.Cells)} {
		for _, p := range append(wrongPlans(), rightPlans()...) {
			k := Pin(p, 0)
			plays(t, c, k, 0, 0)
			in(t, k, 0)
			plays(t, c, Unpin(p, 0), 0)
		}
	}
}
