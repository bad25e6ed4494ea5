package start

import (
	"fmt"
	"iter"
	"math"
	"math/rand"
	"slices"
	"testing"

	"sundial/api"
	"sundial/blank"
	"sundial/cells"
	"sundial/claim"
	"sundial/finish"
	"sundial/handle"
	"sundial/lift"
	"sundial/limbo"
	"sundial/link"
	"sundial/mint"
	"sundial/pin"
	"sundial/plan"
	"sundial/pool"
	"sundial/refer"
	"sundial/settle"
	"sundial/state"
	"sundial/task"
	"sundial/wake"
)

// half is how often a high half goes into a word: a word is its high half times half, and its low half.
const half = 4294967296

// lastGen and lastIndex are the greatest generation and index that a reference has; maxTime is 2^60; least and greatest are the least and the greatest int, and most is the greatest word.
const (
	lastGen   = 4294967295
	lastIndex = 2147483647
	maxTime   = 1152921504606846976
	least     = -9223372036854775808
	greatest  = 9223372036854775807
	most      = 18446744073709551615
)

// words are the edges of a word; from 1<<63 on they are ints below 0.
var words = []uint64{0, 1, 2, 3, 4, 5, 7, 19, 20, 21, 22, 29, 30, 31, 64, 1<<31 - 1, 1 << 31, half - 1, half, half + 1, half + 2, half + 3, 1 << 60, 1<<63 - 1, 1 << 63, 1<<63 + 1, lastGen * half, lastGen*half + 1, lastGen*half + 2, most - 1, most}

// rightDeadlines and wrongDeadlines are the edges of a deadline with which a call starts a timer, and with which it does not.
var (
	rightDeadlines = []int{0, 1, 2, 5, 1<<31 - 1, 1 << 31, 1<<32 - 1, 1 << 32, maxTime - 2, maxTime - 1, maxTime}
	wrongDeadlines = []int{-1, -2, -5, -1 << 31, -1 << 32, -maxTime, -maxTime - 1, least, least + 1, maxTime + 1, maxTime + 2, 1<<61 + 5, 1<<62 + 5, greatest - 1, greatest}
)

// draws are numbers that draw heights, and how high they would be without an end.
var draws = []struct {
	n    uint64
	tall int
}{{0, 1}, {1, 2}, {2, 1}, {3, 3}, {5, 2}, {6, 1}, {7, 4}, {11, 3}, {15, 5}, {127, 8}, {255, 9}, {half - 1, 33}, {half, 1}, {1<<63 - 1, 64}, {1 << 63, 1}, {most - 1, 1}, {most, 65}}

// indexes are slots that plans have, and some that none has; of the latter ones those that are in none of them have no reference.
var indexes = []int{1, 2, 3, 64, 65, 1 << 30, lastIndex - 1, lastIndex, lastIndex + 1, lastIndex + 2, 1<<32 - 1, 1 << 32, 1<<32 + 1, 1<<33 + 2, greatest - 1, greatest, 0, -1, -2, -64, -1 << 31, -1<<32 + 1, least, least + 1}

// flat and small are plans. Of flat the thread's words are at 4, 5 and 6, the head's way on at 7, the slot's words from 8 to 14. Of small Pin is at 4 and 5, Sleep at 6 and 7, Sem at 8 and 9; the head's ways on are at 10 and 11; the slots' words State at 12, 20 and 28, Dead at 13, 21 and 29, Seq at 14, 22 and 30, Tall at 15, 23 and 31, Hold at 16, 24 and 32, Succ at 17, 25 and 33, Next from 18, 26 and 34 on.
var (
	flat  = api.Plan{Threads: 1, Slots: 1, Levels: 1}
	small = api.Plan{Threads: 2, Slots: 3, Levels: 2, Gen: 9}
)

// a and b are references to the slots 1 and 2, and am and bm those with the mark; mine is one to the slot 3, in which the timer is made, and minem that with the mark.
const (
	a     = 5*half + 2
	am    = 5*half + 3
	b     = 7*half + 4
	bm    = 7*half + 5
	mine  = 9*half + 6
	minem = 9*half + 7
)

// rightPlans are such of which each number is the least, one between, or the greatest.
func rightPlans() []api.Plan {
	var l []api.Plan
	for _, threads := range []int{1, 3, 8} {
		for _, slots := range []int{1, 2, 5, 64} {
			for _, levels := range []int{1, 2, 4, 8} {
				l = append(l, api.Plan{Threads: threads, Slots: slots, Levels: levels, Gen: []uint64{0, 1, lastGen}[len(l)%3]})
			}
		}
	}
	return l
}

// wrongPlans are those of which one number alone is none that there is, and those of which several are.
func wrongPlans() []api.Plan {
	l := []api.Plan{{}, {Threads: -1, Slots: -1, Levels: -1}, {Threads: 9, Slots: 65, Levels: 9, Gen: half}, {Threads: math.MaxInt, Slots: math.MaxInt, Levels: math.MaxInt, Gen: math.MaxUint64}, {Threads: math.MinInt, Slots: math.MinInt, Levels: math.MinInt}}
	for _, n := range []int{math.MinInt, math.MinInt + 1, -1<<32 + 2, -64, -1, 0, 9, 65, 1000, 1 << 31, 1<<32 + 2, math.MaxInt - 1, math.MaxInt} {
		l = append(l, api.Plan{Threads: n, Slots: 3, Levels: 3}, api.Plan{Threads: 2, Slots: n, Levels: 3}, api.Plan{Threads: 2, Slots: 3, Levels: n})
	}
	for _, gen := range []uint64{half, half + 1, 1 << 63, math.MaxUint64} {
		l = append(l, api.Plan{Threads: 2, Slots: 3, Levels: 3, Gen: gen})
	}
	return l
}

// allPlans are those that are right, and those that are not.
func allPlans() []api.Plan {
	return append(rightPlans(), wrongPlans()...)
}

// threadsOf are threads of a plan, those beside them, and some that no plan has.
func threadsOf(p api.Plan) []int {
	return []int{0, p.Threads - 1, p.Threads, p.Threads + 1, -1, -4, -5, 8, 4096, 1 << 32, least, least + 4, greatest - 4, greatest}
}

// ref puts a reference together, and indexOf tells the index of one.
func ref(gen uint64, index int) uint64 { return gen*half + 2*uint64(index) }
func indexOf(r uint64) int             { return int(r % half / 2) }

// word is a number as a word.
func word(n int) uint64 { return uint64(n) }

// Where words stand, by chapter 8's sums: a thread's ones, and a slot's ones; nextAt of the slot 0 is the head's way on.
func pinAt(p api.Plan, thread int) int   { return 4 + thread }
func sleepAt(p api.Plan, thread int) int { return 4 + p.Threads + thread }
func semAt(p api.Plan, thread int) int   { return 4 + 2*p.Threads + thread }
func stateAt(p api.Plan, slot int) int {
	return 4 + 3*p.Threads + p.Levels + (slot-1)*(6+p.Levels)
}
func deadAt(p api.Plan, slot int) int { return stateAt(p, slot) + 1 }
func seqAt(p api.Plan, slot int) int  { return stateAt(p, slot) + 2 }
func tallAt(p api.Plan, slot int) int { return stateAt(p, slot) + 3 }
func holdAt(p api.Plan, slot int) int { return stateAt(p, slot) + 4 }
func succAt(p api.Plan, slot int) int { return stateAt(p, slot) + 5 }
func nextAt(p api.Plan, slot, level int) int {
	if slot == 0 {
		return 4 + 3*p.Threads + level
	}
	return stateAt(p, slot) + 6 + level
}

// Deeds by the numbers of their kinds, for short.
func read(at int, by uint64) api.Deed   { return api.Deed{Kind: 1, At: at, By: by} }
func put(at int, w, by uint64) api.Deed { return api.Deed{Kind: 2, At: at, A: w, By: by} }
func swap(at int, old, w, by uint64) api.Deed {
	return api.Deed{Kind: 3, At: at, A: old, B: w, By: by}
}
func add(at int, w, by uint64) api.Deed { return api.Deed{Kind: 4, At: at, A: w, By: by} }

// job is what Insert is asked, but for the limbo.
type job struct {
	plan            api.Plan
	index, deadline int
	n               uint64
}

// ask is what Start is asked, but for the limbo.
type ask struct {
	plan   api.Plan
	thread int
	call   api.Call
}

// calls makes what Start is asked of a plan, a thread, a deadline and a draw.
func calls(p api.Plan, thread, deadline int, n uint64) ask {
	return ask{p, thread, api.Call{Kind: api.CallStart, Deadline: deadline, Draw: n}}
}

// step is a deed that is asked for, and what is told then.
type step struct {
	asked api.Deed
	found uint64
}

// asks asks whether a task asks for d, again and again.
func asks(t *testing.T, k task.Task, d api.Deed) {
	t.Helper()
	for range 2 {
		if got, more := k.Next(); got != d || !more {
			t.Fatalf("%+v is asked for (%v), not %+v", got, more, d)
		}
	}
}

// goes asks whether a task asks for the deeds of l, and tells it what is found.
func goes(t *testing.T, k task.Task, l ...step) {
	t.Helper()
	for n, s := range l {
		if got, more := k.Next(); got != s.asked || !more {
			t.Fatalf("%+v is asked for (%v) at %d, not %+v", got, more, n+1, s.asked)
		}
		k.Tell(s.found)
	}
}

// ended asks whether a task is done, and stays so, whatever it is told.
func ended(t *testing.T, k task.Task) {
	t.Helper()
	for _, found := range []uint64{0, 1, 2, a, am, 20, 30, 1, 1, most, 0} {
		if got, more := k.Next(); got != (api.Deed{}) || more {
			t.Fatalf("%+v is asked for (%v) by a task that is done", got, more)
		}
		k.Tell(found)
	}
	if got, more := k.Next(); got != (api.Deed{}) || more {
		t.Fatalf("a task that is done went on to %+v (%v)", got, more)
	}
}

// lives asks whether an inserter tells that the timer lives, and this handle; or, of a handle that is none, that it does not.
func lives(t *testing.T, k *Inserter, is bool, h uint64) {
	t.Helper()
	if got := k.Lives(); got != is || k.Handle() != h {
		t.Fatalf("it lives: %v, with the handle %d; not %v, with %d", got, k.Handle(), is, h)
	}
}

// sameAnswer tells whether two answers are the same, a batch that is nil or empty being none.
func sameAnswer(x, y api.Answer) bool {
	return x.Err == y.Err && x.Ok == y.Ok && x.Handle == y.Handle && slices.Equal(x.Batch, y.Batch)
}

// answers asks whether a starter tells this answer and these acts, again and again.
func answers(t *testing.T, k *Starter, want api.Answer, acts ...api.Act) {
	t.Helper()
	for range 2 {
		if got := k.Answer(); !sameAnswer(got, want) {
			t.Fatalf("%+v is answered, not %+v", got, want)
		}
		if got := k.Acts(); !slices.Equal(got, acts) {
			t.Fatalf("%+v was done, not %+v", got, acts)
		}
	}
}

// waiting makes a limbo with these slots.
func waiting(l ...api.Retired) *limbo.Limbo {
	w := limbo.New()
	for _, r := range l {
		w.Add(r.Ref, r.Epoch)
	}
	return w
}

// waits asks whether just these slots wait in a limbo.
func waits(t *testing.T, l *limbo.Limbo, want ...api.Retired) {
	t.Helper()
	if got := l.All(); !slices.Equal(got, want) {
		t.Fatalf("%+v wait, not %+v", got, want)
	}
}

// At which of the chapters' steps a task is.
const (
	pinning = iota
	popping
	minting
	linking
	living
	lifting
	settling
	waking
	leaving
	over
)

// tale is the task that goes as a story says, in which the chapter's sentences are written down one behind the other.
type tale struct {
	next   func() (api.Deed, bool)
	end    func() // lets go of a tale that nobody asks any more
	yield  func(api.Deed) bool
	now    api.Deed
	more   bool
	found  uint64
	steps  int // how many deeds were told
	at     int
	lives  bool
	handle uint64
	answer api.Answer
	acts   []api.Act
	limbo  *limbo.Limbo
	key    api.Key
}

// leftEarly is what ends a story that nobody asks any more.
type leftEarly struct{}

// tell makes the tale of a story.
func tell(l *limbo.Limbo, story func(s *tale)) *tale {
	s := &tale{limbo: l}
	s.next, s.end = iter.Pull(func(yield func(api.Deed) bool) {
		defer func() {
			if r := recover(); r != nil && r != any(leftEarly{}) {
				panic(r)
			}
		}()
		s.yield = yield
		story(s)
		s.at = over
	})
	s.now, s.more = s.next()
	return s
}

func (s *tale) Next() (api.Deed, bool) { return s.now, s.more }

func (s *tale) Tell(found uint64) {
	if s.more {
		s.steps++
		s.found = found
		s.now, s.more = s.next()
	}
}

// do asks for a deed of the story, and tells what is found by it.
func (s *tale) do(d api.Deed) uint64 {
	if !s.yield(d) {
		panic(leftEarly{})
	}
	return s.found
}

// all does the steps of a task of another layer.
func (s *tale) all(at int, k task.Task) {
	s.at = at
	for {
		d, more := k.Next()
		if !more {
			return
		}
		k.Tell(s.do(d))
	}
}

// heightOf is the height that a number draws of so many levels, by chapter 5's sentence.
func heightOf(n uint64, levels int) int {
	if levels < 1 {
		return 0
	}
	tall := 1
	for ; n%2 == 1; n /= 2 {
		tall++
	}
	return min(tall, levels)
}

// story tells the sentences of 31.1.
func (j job) story(s *tale) {
	tall := heightOf(j.n, j.plan.Levels)
	m := mint.Mint(j.plan, j.index, j.deadline, tall)
	s.all(minting, m)
	r := m.Ref()
	s.key = m.Key()
	k := link.Link(j.plan, r, s.key, tall)
	s.all(linking, k)
	s.at = living
	s.do(put(stateAt(j.plan, j.index), r/half*half+2, 0))
	s.lives, s.handle = true, r/half*half+r%half/2
	s.acts = append(s.acts, api.Act{Kind: 1, Handle: s.handle, Deadline: j.deadline, Step: s.steps})
	s.all(lifting, lift.Lift(j.plan, r, s.key, tall, k.Preds(), k.Succs()))
	e := settle.Settle(j.plan, r, s.key)
	s.all(settling, e)
	if gone, ok := e.Retired(); ok {
		s.limbo.Add(gone.Ref, gone.Epoch)
	}
	s.all(waking, wake.Wake(j.plan, j.deadline))
}

// story tells the sentences of 31.2.
func (q ask) story(s *tale) {
	if q.call.Deadline < 0 || q.call.Deadline > maxTime {
		s.answer = api.Answer{Err: 2}
		return
	}
	s.all(pinning, pin.Pin(q.plan, q.thread))
	k := pool.Pop(q.plan)
	s.all(popping, k)
	if k.Index() == 0 {
		s.acts = append(s.acts, api.Act{Kind: 5, Step: s.steps})
		s.all(leaving, pin.Unpin(q.plan, q.thread))
		s.answer = api.Answer{Err: 3}
		return
	}
	job{q.plan, k.Index(), q.call.Deadline, q.call.Draw}.story(s)
	s.all(leaving, pin.Unpin(q.plan, q.thread))
	s.answer = api.Answer{Ok: true, Handle: s.handle}
}

// pair is an inserter or a starter under way, and its tale, each with a limbo of its own, in which the same slots waited at the beginning.
type pair struct {
	fast  task.Task
	limbo *limbo.Limbo
	slow  *tale
	of    string
	plan  api.Plan
}

// pair makes the pair of a job.
func (j job) pair(l ...api.Retired) *pair {
	w := waiting(l...)
	return &pair{Insert(j.plan, w, j.index, j.deadline, j.n), w, tell(waiting(l...), j.story), fmt.Sprintf("Insert of %+v", j), j.plan}
}

// pair makes the pair of what Start is asked.
func (q ask) pair(l ...api.Retired) *pair {
	w := waiting(l...)
	return &pair{Start(q.plan, q.thread, q.call, w), w, tell(waiting(l...), q.story), fmt.Sprintf("Start of %+v", q), q.plan}
}

// same asks whether a task stands where its tale does, in whatever it tells, and tells whether it goes on.
func (g *pair) same(t *testing.T) bool {
	t.Helper()
	s := g.slow
	if got, more := g.fast.Next(); got != s.now || more != s.more {
		t.Fatalf("%s asks for %+v (%v) at %d, not for %+v (%v)", g.of, got, more, s.steps+1, s.now, s.more)
	}
	if l, want := g.limbo.All(), s.limbo.All(); !slices.Equal(l, want) {
		t.Fatalf("behind %d steps of %s there wait %+v, not %+v", s.steps, g.of, l, want)
	}
	switch k := g.fast.(type) {
	case *Inserter:
		if k.Lives() != s.lives || k.Handle() != s.handle {
			t.Fatalf("behind %d steps of %s the timer lives: %v, with %d; not %v, with %d", s.steps, g.of, k.Lives(), k.Handle(), s.lives, s.handle)
		}
	case *Starter:
		if got := k.Answer(); !sameAnswer(got, s.answer) {
			t.Fatalf("behind %d steps of %s %+v is answered, not %+v", s.steps, g.of, got, s.answer)
		}
		if got := k.Acts(); !slices.Equal(got, s.acts) {
			t.Fatalf("behind %d steps of %s %+v was done, not %+v", s.steps, g.of, got, s.acts)
		}
	}
	return s.more
}

// tell tells both what was found.
func (g *pair) tell(found uint64) {
	g.fast.Tell(found)
	g.slow.Tell(found)
}

// plain is what is found by the deed that is asked for where nobody else is, and no slot stands in a chain.
func (g *pair) plain() uint64 {
	d, at := g.slow.now, g.slow.at
	switch {
	case d.Kind == 3:
		return d.A
	case at == settling && d.Kind == 4:
		return 2
	case at == popping && d.At == 3:
		return 1
	}
	return 0
}

// choices are words that may be found by the deed that is asked for: those that the chapters tell apart, and others.
func (g *pair) choices() []uint64 {
	d, at, dead, seq := g.slow.now, g.slow.at, g.slow.key.Deadline, g.slow.key.Seq
	switch {
	case d.Kind == 2:
		return []uint64{0, most}
	case d.Kind == 3:
		return []uint64{d.A, d.A + 1, d.B, d.A + 2, d.A + half}
	case d.Kind == 4 && at == settling:
		return []uint64{0, 1, 2, 3, 1 + half, most}
	case d.Kind == 4:
		return []uint64{0, 7, most}
	case at == popping && d.At == 3:
		return []uint64{0, 1, 5 * half, half + 3, lastGen*half + 64, 1 << 31, most}
	case at == minting:
		return []uint64{0, 9 * half, 5*half + 4, 1<<63 + 1, lastGen*half + 4, most}
	case at == waking:
		return []uint64{0, 1, word(dead), word(dead) + 1, word(dead) + 2, most}
	}
	if slot := indexOf(d.By); slot != 0 {
		switch d.At {
		case deadAt(g.plan, slot):
			return []uint64{word(dead - 1), word(dead), word(dead + 1)}
		case seqAt(g.plan, slot):
			return []uint64{seq - 1, seq, seq + 1}
		}
	}
	return []uint64{0, 1, a, bm, mine, minem, 9 * half}
}

// luck is what is found by the deed that is asked for by chance, mostly such that it goes on.
func (g *pair) luck(r *rand.Rand) uint64 {
	some := g.choices()
	switch r.Intn(8) {
	case 0:
		return some[r.Intn(len(some))]
	case 1:
		return some[r.Intn(len(some))]
	case 2:
		if r.Intn(6) == 0 {
			return anyWord(r)
		}
	}
	return g.plain()
}

// anyWord is a reference of chance, with a mark or without, an edge, or any word.
func anyWord(r *rand.Rand) uint64 {
	switch r.Intn(4) {
	case 0:
		return r.Uint64()
	case 1:
		return words[r.Intn(len(words))]
	}
	return ref([]uint64{0, 1, uint64(r.Uint32()), lastGen}[r.Intn(4)], r.Intn(70)) + uint64(r.Intn(2))
}

// made makes the memory at the beginning of a right plan.
func made(t *testing.T, p api.Plan) *cells.Cells {
	t.Helper()
	c, err := blank.Make(p)
	if err != api.OK {
		t.Fatalf("no memory of %+v: %d", p, err)
	}
	return c
}

// memory makes a memory of words.
func memory(t *testing.T, l []uint64) *cells.Cells {
	t.Helper()
	c, err := cells.Of(l)
	if err != api.OK {
		t.Fatal(err)
	}
	return c
}

// stands asks whether a memory has just these words.
func stands(t *testing.T, c *cells.Cells, l []uint64) {
	t.Helper()
	if got := c.Words(); !slices.Equal(got, l) {
		t.Fatalf("%v stand, not %v", got, l)
	}
}

// 31.1 and 31.2: the chapter's example, in numbers: 19 deeds, of which the 16th is the one at which the timer begins to live, and the handle 1.
func TestExample(t *testing.T) {
	c, l := made(t, flat), limbo.New()
	k := Start(flat, 0, api.Call{Kind: 1, Deadline: 5}, l)
	answers(t, k, api.Answer{})
	found := task.Play(c, k, 99)
	if want := []uint64{1, 0, 1, 0, 1, 0, 0, 0, 0, 0, 0, 0, 0, 0, 0, 1, 2, 0, 1}; len(found) != 19 || !slices.Equal(found, want) {
		t.Fatalf("%v was found, not %v", found, want)
	}
	ended(t, k)
	answers(t, k, api.Answer{Ok: true, Handle: 1}, api.Act{Kind: 1, Handle: 1, Deadline: 5, Step: 16})
	if text := handle.Text(k.Answer().Handle); text != "0.1" {
		t.Errorf("the handle is %s", text)
	}
	stands(t, c, []uint64{1, 0, 1, half, 0, 0, 0, 2, 2, 5, 0, 1, 1, 0, 0})
	waits(t, l)
}

// exampleSteps are the 19 deeds of the chapter's example, and what is found by each.
var exampleSteps = []step{
	{read(0, 0), 1}, {put(4, 1, 0), 0},
	{read(3, 0), 1}, {read(13, 0), 0}, {swap(3, 1, half, 0), 1},
	{read(8, 0), 0}, {put(8, 1, 0), 0}, {add(2, 1, 0), 0}, {put(9, 5, 2), 0}, {put(10, 0, 2), 0}, {put(11, 1, 2), 0}, {put(12, 2, 2), 0},
	{read(7, 0), 0}, {put(14, 0, 2), 0}, {swap(7, 0, 2, 0), 0},
	{put(8, 2, 0), 1},
	{add(12, most, 2), 2},
	{read(5, 0), 0},
	{put(4, 0, 0), 1},
}

// 31.1 and 31.2: the chapter's example, deed by deed, and what is told ahead of each one, and behind it: the act stands from the 16th on, and the answer behind the 19th.
func TestExampleDeedByDeed(t *testing.T) {
	act := api.Act{Kind: api.ActStart, Handle: 1, Deadline: 5, Step: 16}
	k := Start(flat, 0, api.Call{Deadline: 5}, nil)
	for n, s := range exampleSteps {
		if n < 16 {
			answers(t, k, api.Answer{})
		} else {
			answers(t, k, api.Answer{}, act)
		}
		goes(t, k, s)
	}
	answers(t, k, api.Answer{Ok: true, Handle: 1}, act)
	ended(t, k)
	answers(t, k, api.Answer{Ok: true, Handle: 1}, act)
	// The same without the slot's being taken, and the thread's being pinned.
	i := Insert(flat, nil, 1, 5, 0)
	for n, s := range exampleSteps[5:18] {
		for range 2 {
			lives(t, i, n > 10, []uint64{0, 1}[n/11])
		}
		goes(t, i, s)
	}
	ended(t, i)
	lives(t, i, true, 1)
}

// hardSteps are the steps by which a timer of the deadline 20, the number 30 and the height 2 is brought in, in the slot 3 of the plan small, where somebody comes between at the lowest level, and somebody takes it then; and both threads sleep, the first one too long.
var hardSteps = []step{
	{read(28, 0), 9*half + 4}, {put(28, 9*half+1, 0), 9*half + 4}, {add(2, 1, 0), 30}, {put(29, 20, mine), 3}, {put(30, 30, mine), 4}, {put(31, 2, mine), 5}, {put(32, 2, mine), 6},
	{read(11, 0), 0}, {read(10, 0), a}, {read(18, a), 0}, {read(13, a), 20}, {read(14, a), 29},
	{put(34, 0, mine), 7}, {put(35, 0, mine), 8}, {swap(18, 0, mine, a), b},
	{read(11, 0), a}, {read(19, a), 0}, {read(13, a), 19}, {read(18, a), b}, {read(26, b), 0}, {read(21, b), 20}, {read(22, b), 31},
	{put(34, b, mine), 0}, {put(35, 0, mine), 0}, {swap(18, b, mine, a), b},
	{put(28, 9*half+2, 0), 9*half + 1},
	{read(35, mine), 0}, {swap(19, 0, mine, a), b},
	{read(11, 0), 0}, {read(10, 0), a}, {read(18, a), mine}, {read(13, a), 19}, {read(34, mine), b}, {read(29, mine), 20}, {read(30, mine), 30},
	{read(35, mine), 0}, {swap(11, 0, mine, 0), 0},
	{add(32, most, mine), 1},
	{read(11, 0), mine}, {read(35, mine), 1}, {swap(11, mine, 0, 0), mine},
	{read(10, 0), a}, {read(18, a), mine}, {read(13, a), 20}, {read(14, a), 29}, {read(34, mine), bm}, {swap(18, mine, b, a), mine}, {read(26, b), 0}, {read(21, b), 20}, {read(22, b), 31},
	{read(0, 0), 12},
	{read(6, 0), 22}, {add(8, 1, 0), 3}, {read(7, 0), 21},
}

// hardLives is at which of these steps it begins to live, and hardGone at which its slot is retired.
const (
	hardLives = 26
	hardGone  = 51
)

// 31.1: all steps of an inserter in numbers, with what somebody else does between them: Lives and Handle turn at the third one's, and the slot comes into the limbo, behind those that wait there, as soon as the epoch is told.
func TestInsertInNumbers(t *testing.T) {
	l := waiting(api.Retired{Ref: 2, Epoch: 9}, api.Retired{Ref: 4, Epoch: 10})
	k := Insert(small, l, 3, 20, 1)
	for n, s := range hardSteps {
		if n < hardLives {
			lives(t, k, false, 0)
		} else {
			lives(t, k, true, 9*half+3)
		}
		if n < hardGone {
			waits(t, l, api.Retired{Ref: 2, Epoch: 9}, api.Retired{Ref: 4, Epoch: 10})
		} else {
			waits(t, l, api.Retired{Ref: 2, Epoch: 9}, api.Retired{Ref: mine, Epoch: 12}, api.Retired{Ref: 4, Epoch: 10})
		}
		goes(t, k, s)
	}
	ended(t, k)
	lives(t, k, true, 9*half+3)
	waits(t, l, api.Retired{Ref: 2, Epoch: 9}, api.Retired{Ref: mine, Epoch: 12}, api.Retired{Ref: 4, Epoch: 10})
}

// 31.2: all steps of a starter in numbers, with what somebody else does between them: those of an inserter stand between the pin, three tries to take a slot, and the thread's leaving.
func TestStartInNumbers(t *testing.T) {
	ahead := []step{
		{read(0, 0), 7}, {put(5, 7, 0), 0},
		{read(3, 0), 4*half + 2}, {read(25, 0), 1}, {swap(3, 4*half+2, 5*half+1, 0), 5*half + 2},
		{read(3, 0), lastGen*half + 1}, {read(17, 0), 5*half + 3}, {swap(3, lastGen*half+1, 3, 0), 3},
		{read(3, 0), 6*half + 3}, {read(33, 0), 0}, {swap(3, 6*half+3, 7*half, 0), 6*half + 3},
	}
	act := api.Act{Kind: 1, Handle: 9*half + 3, Deadline: 20, Step: 11 + hardLives}
	l := limbo.New()
	k := Start(small, 1, api.Call{Kind: 1, Deadline: 20, Draw: 1}, l)
	for _, s := range slices.Concat(ahead, hardSteps[:hardLives]) {
		answers(t, k, api.Answer{})
		goes(t, k, s)
	}
	for _, s := range append(slices.Clone(hardSteps[hardLives:]), step{put(5, 0, 0), 7}) {
		answers(t, k, api.Answer{}, act)
		goes(t, k, s)
	}
	answers(t, k, api.Answer{Ok: true, Handle: 9*half + 3}, act)
	ended(t, k)
	answers(t, k, api.Answer{Ok: true, Handle: 9*half + 3}, act)
	waits(t, l, api.Retired{Ref: mine, Epoch: 12})
}

// 31.1 and 31.2: each deed in the names of api's, of layers 2, 4 and 8.
func TestDeedsByName(t *testing.T) {
	p := api.Plan{Threads: 2, Slots: 3, Levels: 2}
	r := refer.Of(3, 2)
	goes(t, Start(p, 1, api.Call{Kind: api.CallStart, Deadline: api.MaxTime, Draw: 1}, nil),
		step{api.Deed{Kind: api.Load, At: api.AtEpoch}, 6},
		step{api.Deed{Kind: api.Store, At: plan.Pin(p, 1), A: 6}, 0},
		step{api.Deed{Kind: api.Load, At: api.AtFree}, 2},
		step{api.Deed{Kind: api.Load, At: plan.Succ(p, 2)}, 3},
		step{api.Deed{Kind: api.Swap, At: api.AtFree, A: 2, B: half + 3}, 2},
		step{api.Deed{Kind: api.Load, At: plan.State(p, 2)}, state.Of(3, api.Free)},
		step{api.Deed{Kind: api.Store, At: plan.State(p, 2), A: state.Of(3, api.Making)}, 0},
		step{api.Deed{Kind: api.Add, At: api.AtSerial, A: 1}, 77},
		step{api.Deed{Kind: api.Store, At: plan.Dead(p, 2), A: api.MaxTime, By: r}, 0},
		step{api.Deed{Kind: api.Store, At: plan.Seq(p, 2), A: 77, By: r}, 0},
		step{api.Deed{Kind: api.Store, At: plan.Tall(p, 2), A: 2, By: r}, 0},
		step{api.Deed{Kind: api.Store, At: plan.Hold(p, 2), A: 2, By: r}, 0},
		step{api.Deed{Kind: api.Load, At: plan.Next(p, 0, 1)}, 0},
		step{api.Deed{Kind: api.Load, At: plan.Next(p, 0, 0)}, 0},
		step{api.Deed{Kind: api.Store, At: plan.Next(p, 2, 0), By: r}, 0},
		step{api.Deed{Kind: api.Store, At: plan.Next(p, 2, 1), By: r}, 0},
		step{api.Deed{Kind: api.Swap, At: plan.Next(p, 0, 0), B: r}, 0},
		step{api.Deed{Kind: api.Store, At: plan.State(p, 2), A: state.Of(3, api.Live)}, 0},
		step{api.Deed{Kind: api.Load, At: plan.Next(p, 2, 1), By: r}, 0},
		step{api.Deed{Kind: api.Swap, At: plan.Next(p, 0, 1), B: r}, 0},
		step{api.Deed{Kind: api.Add, At: plan.Hold(p, 2), A: math.MaxUint64, By: r}, 2},
		step{api.Deed{Kind: api.Load, At: plan.Sleep(p, 0)}, api.Never + 1},
		step{api.Deed{Kind: api.Add, At: plan.Sem(p, 0), A: 1}, 0},
		step{api.Deed{Kind: api.Load, At: plan.Sleep(p, 1)}, api.Never},
		step{api.Deed{Kind: api.Store, At: plan.Pin(p, 1)}, 6})
	if api.CallStart != 1 || api.ActStart != 1 || api.ActFull != 5 || api.ErrArg != 2 || api.ErrFull != 3 || api.MaxTime != maxTime {
		t.Error("the numbers of api's names are not the document's")
	}
}

// 31.2: a deadline that is none from 0 to MaxTime: it asks for nothing, and answers ErrArg at once, whatever else it is asked, and whatever it is told.
func TestWrongDeadlines(t *testing.T) {
	for _, p := range allPlans() {
		for _, dead := range wrongDeadlines {
			for i, thread := range threadsOf(p) {
				one := api.Retired{Ref: 2, Epoch: 3}
				for _, l := range []*limbo.Limbo{nil, waiting(one)} {
					k := Start(p, thread, api.Call{Kind: i - 1, Deadline: dead, Draw: words[i], Handle: 1, Count: 1}, l)
					answers(t, k, api.Answer{Err: 2})
					ended(t, k)
					answers(t, k, api.Answer{Err: 2})
					if l != nil {
						waits(t, l, one)
					}
				}
			}
		}
	}
	for _, p := range rightPlans() {
		for _, dead := range wrongDeadlines {
			c := made(t, p)
			stand := c.Words()
			k := Start(p, 0, api.Call{Kind: 1, Deadline: dead}, limbo.New())
			if l := task.Play(c, k, 99); len(l) != 0 {
				t.Fatalf("%v was found", l)
			}
			stands(t, c, stand)
			answers(t, k, api.Answer{Err: api.ErrArg})
		}
	}
}

// 31.2: each deadline from 0 to MaxTime starts a timer, of any call: its Kind, Handle and Count count for nothing. It is stored as it is, and stands in the act.
func TestRightDeadlines(t *testing.T) {
	for _, p := range rightPlans() {
		for i, dead := range rightDeadlines {
			for _, c := range []api.Call{{}, {Kind: 1}, {Kind: i, Handle: most, Count: -1}, {Kind: greatest, Handle: half + 1, Count: 5}} {
				c.Deadline, c.Draw = dead, draws[i].n
				m := made(t, p)
				k := Start(p, p.Threads-1, c, nil)
				task.Play(m, k, 999)
				h := p.Gen*half + 1
				if got := k.Answer(); !sameAnswer(got, api.Answer{Ok: true, Handle: h}) || m.Load(deadAt(p, 1)) != word(dead) {
					t.Fatalf("%+v is answered of %+v, and %d stands there", got, c, m.Load(deadAt(p, 1)))
				}
				if acts := k.Acts(); len(acts) != 1 || acts[0] != (api.Act{Kind: 1, Handle: h, Deadline: dead, Step: acts[0].Step}) {
					t.Fatalf("%+v was done", acts)
				}
			}
		}
	}
}

// 31.1: Insert goes the same steps with any deadline, which it stores as a word, and of which it wakes others: -1, and what is above MaxTime, too.
func TestInsertOfAnyDeadline(t *testing.T) {
	for _, p := range allPlans() {
		for i, dead := range slices.Concat(rightDeadlines, wrongDeadlines) {
			g := job{p, 2, dead, draws[i%len(draws)].n}.pair()
			for n := 0; g.same(t) && n < 70; n++ {
				if g.slow.now.At == deadAt(p, 2) && g.slow.now.Kind == 2 && g.slow.now.A != word(dead) {
					t.Fatalf("%d is stored as the deadline %d", g.slow.now.A, dead)
				}
				g.tell(g.plain())
			}
			g.slow.end()
		}
	}
	k := Insert(small, nil, 1, -1, 0)
	goes(t, k, step{read(12, 0), 0}, step{put(12, 1, 0), 0}, step{add(2, 1, 0), 0}, step{put(13, most, 2), 0})
	k = Insert(small, nil, 1, greatest, 0)
	goes(t, k, step{read(12, 0), 0}, step{put(12, 1, 0), 0}, step{add(2, 1, 0), 0}, step{put(13, 1<<63-1, 2), 0})
}

// 31.1: the height in numbers: as many levels as the number draws, and the plan has, are stored as the height, and as the timer's ways on; and it comes into the chains of as many.
func TestHeights(t *testing.T) {
	for _, d := range draws {
		for levels := range 9 {
			for _, start := range []bool{false, true} {
				p := api.Plan{Threads: 1, Slots: 2, Levels: levels}
				tall := min(d.tall, levels)
				g := job{p, 1, 5, d.n}.pair()
				if start {
					g = calls(p, 0, 5, d.n).pair()
				}
				var own, heads []int
				stored := uint64(99)
				for g.same(t) {
					now := g.slow.now
					for h := range levels {
						if now.Kind == 2 && now.At == nextAt(p, 1, h) {
							own = append(own, h)
						}
						if now.Kind == 3 && now.At == nextAt(p, 0, h) {
							heads = append(heads, h)
						}
					}
					if now.Kind == 2 && now.At == tallAt(p, 1) {
						stored = now.A
					}
					g.tell(g.plain())
				}
				want := []int{0, 1, 2, 3, 4, 5, 6, 7}[:tall]
				if stored != word(tall) || !slices.Equal(own, want) || !slices.Equal(heads, want) {
					t.Fatalf("%d, of %d levels, draws %d; ways on of %v, heads of %v", d.n, levels, stored, own, heads)
				}
			}
		}
	}
}

// 31.2: no slot is free: whatever the half of the head beside it is, the act ActFull stands at the third deed, and ErrFull is answered behind the fourth; nothing is changed but that the thread was pinned.
func TestFull(t *testing.T) {
	for _, p := range allPlans() {
		for _, thread := range threadsOf(p) {
			for i, w := range []uint64{0, half, 5 * half, 1 << 63, lastGen * half} {
				l := waiting(api.Retired{Ref: 4, Epoch: 6})
				k := Start(p, thread, calls(p, 0, rightDeadlines[i], words[i]).call, l)
				answers(t, k, api.Answer{})
				goes(t, k, step{read(0, 0), words[i]})
				answers(t, k, api.Answer{})
				goes(t, k, step{put(4+thread, words[i], 0), 3})
				answers(t, k, api.Answer{})
				goes(t, k, step{read(3, 0), w})
				act := api.Act{Kind: 5, Step: 3}
				answers(t, k, api.Answer{}, act)
				goes(t, k, step{put(4+thread, 0, 0), words[i]})
				answers(t, k, api.Answer{Err: 3}, act)
				ended(t, k)
				answers(t, k, api.Answer{Err: 3}, act)
				waits(t, l, api.Retired{Ref: 4, Epoch: 6})
			}
		}
	}
}

// 31.2: the last free slot is taken by somebody else, again and again, while it is about to be: the act ActFull stands at the load that finds none.
func TestFullInTheEnd(t *testing.T) {
	for _, tries := range []int{1, 2, 3, 50, 3000} {
		k := Start(small, 0, api.Call{Deadline: 5}, nil)
		goes(t, k, step{read(0, 0), 7}, step{put(4, 7, 0), 0})
		for n := range tries {
			head := word(n)*half + word(n%3) + 1
			goes(t, k, step{read(3, 0), head}, step{read(17+8*(n%3), 0), 0}, step{swap(3, head, word(n+1)*half, 0), word(n+1) * half})
		}
		answers(t, k, api.Answer{})
		goes(t, k, step{read(3, 0), word(tries) * half})
		act := api.Act{Kind: api.ActFull, Step: 3 + 3*tries}
		answers(t, k, api.Answer{}, act)
		goes(t, k, step{put(4, 0, 0), 7})
		answers(t, k, api.Answer{Err: api.ErrFull}, act)
		ended(t, k)
	}
}

// 31.1: each index, each generation that the slot's state says, whatever its status is: the state of the slot is stored at its place, of the generation of its reference, without By; Lives and Handle turn just then. An index that has no reference has neither a generation nor a handle.
func TestLives(t *testing.T) {
	for _, p := range []api.Plan{{}, flat, small, {Threads: 8, Slots: 64, Levels: 8, Gen: lastGen}, {Threads: -1, Slots: -5, Levels: -7}} {
		for _, index := range indexes {
			for _, gen := range []uint64{0, 1, 9, 1<<31 - 1, 1 << 31, lastGen - 1, lastGen} {
				for _, status := range []uint64{0, 1, 2, 3, 4, 5, lastGen} {
					k := Insert(p, nil, index, 7, 0)
					live, h := gen*half+2, gen*half+word(index)
					if index < 1 || index > lastIndex {
						live, h = 2, 0
					}
					goes(t, k, step{read(stateAt(p, index), 0), gen*half + status})
					for n := 0; ; n++ {
						lives(t, k, false, 0)
						d, more := k.Next()
						if n > 99 || !more {
							t.Fatalf("it does not live behind %d steps", n)
						}
						if d == put(stateAt(p, index), live, 0) {
							break
						}
						// The head's ways on are found as none, so that each Swap finds 0.
						k.Tell(0)
					}
					k.Tell(most)
					lives(t, k, true, h)
					for range 99 {
						k.Tell(0)
						lives(t, k, true, h)
					}
				}
			}
		}
	}
}

// 31.2: whatever slot is found as the top one: the timer is made in it, and its handle is answered, and is the act's; of an index that has no reference both are 0, and the timer was started all the same.
func TestAnyTopSlot(t *testing.T) {
	for _, p := range allPlans() {
		for _, index := range []uint64{1, 2, 64, 65, 1 << 30, lastIndex, lastIndex + 1, lastGen} {
			for _, gen := range []uint64{0, 9, lastGen} {
				k := Start(p, 0, api.Call{Deadline: 5}, nil)
				h := gen*half + index
				if index > lastIndex {
					h = 0
				}
				goes(t, k, step{read(0, 0), 7}, step{put(4, 7, 0), 0},
					step{read(3, 0), 3*half + index}, step{read(succAt(p, int(index)), 0), 0}, step{swap(3, 3*half+index, 4*half, 0), 3*half + index},
					step{read(stateAt(p, int(index)), 0), gen * half})
				if p.Threads > 99 || p.Levels > 99 {
					continue
				}
				for range 99 {
					if _, more := k.Next(); !more {
						break
					}
					answers(t, k, api.Answer{}, k.Acts()...)
					k.Tell(0)
				}
				ended(t, k)
				acts := k.Acts()
				if len(acts) != 1 {
					t.Fatalf("%+v was done", acts)
				}
				answers(t, k, api.Answer{Ok: true, Handle: h}, api.Act{Kind: 1, Handle: h, Deadline: 5, Step: acts[0].Step})
			}
		}
	}
}

// 31.1: the slot comes into the limbo just if the Add found 1, as soon as the epoch is told, in that epoch, whatever waits there; no limbo keeps nothing.
func TestRetired(t *testing.T) {
	for _, hold := range []uint64{0, 1, 2, 3, half, half + 1, 1 << 63, 1<<63 + 1, most} {
		for _, epoch := range words {
			old := []api.Retired{{Ref: 2, Epoch: 0}, {Ref: 4, Epoch: 1}, {Ref: mine, Epoch: 2}}
			full := waiting(old...)
			one, both := slices.Clone(old), waiting(append(old, api.Retired{Ref: mine, Epoch: epoch})...).All()
			l := []*limbo.Limbo{nil, limbo.New(), full, {}}
			for i, w := range l {
				k := Insert(small, w, 3, 20, 0)
				for _, s := range []step{{read(28, 0), 9 * half}, {put(28, 9*half+1, 0), 0}, {add(2, 1, 0), 30}, {put(29, 20, mine), 0}, {put(30, 30, mine), 0}, {put(31, 1, mine), 0}, {put(32, 2, mine), 0},
					{read(11, 0), 0}, {read(10, 0), 0}, {put(34, 0, mine), 0}, {swap(10, 0, mine, 0), 0}, {put(28, 9*half+2, 0), 0}, {add(32, most, mine), hold}} {
					waits(t, w, [][]api.Retired{nil, nil, one, nil}[i]...)
					goes(t, k, s)
				}
				if hold == 1 {
					for _, s := range []step{{read(11, 0), 0}, {read(10, 0), 0}, {read(0, 0), epoch}} {
						waits(t, w, [][]api.Retired{nil, nil, one, nil}[i]...)
						goes(t, k, s)
					}
					alone := []api.Retired{{Ref: mine, Epoch: epoch}}
					waits(t, w, [][]api.Retired{nil, alone, both, alone}[i]...)
				}
				got := w.All()
				goes(t, k, step{read(6, 0), 21}, step{read(7, 0), 22}, step{add(9, 1, 0), 0})
				ended(t, k)
				waits(t, w, got...)
			}
		}
	}
}

// somePairs makes pairs of plans that are right, and of such as are not.
func somePairs(n int) []func() *pair {
	var l []func() *pair
	for _, p := range []api.Plan{{}, flat, small, {Threads: 2, Levels: 3, Slots: -1}} {
		for _, d := range []uint64{0, 1, 3, most}[:n] {
			l = append(l, func() *pair { return job{p, 3, 20, d}.pair() }, func() *pair { return calls(p, 1, 20, d).pair(api.Retired{Ref: a, Epoch: 3}) })
		}
		l = append(l, func() *pair { return job{p, -3, -1, 1}.pair() })
	}
	return l
}

// goOn lets a pair go on for at most so many steps, with what is found where nobody else is.
func (g *pair) goOn(t *testing.T, most int) {
	t.Helper()
	for n := 0; g.same(t) && n < most; n++ {
		g.tell(g.plain())
	}
	g.slow.end()
}

// 31.1 and 31.2: at each step of a way that nobody comes into: whatever is found at it, be it one of the words that the chapters tell apart, or any edge, it goes on as the chapter's sentences say.
func TestWhateverIsFound(t *testing.T) {
	for _, begin := range somePairs(4) {
		for n := range 45 {
			g := begin()
			for i := 0; g.same(t) && i < n; i++ {
				g.tell(g.plain())
			}
			all := append(g.choices(), words...)
			more := g.slow.more
			g.slow.end()
			if !more {
				break
			}
			for _, w := range all {
				g := begin()
				for range n {
					g.tell(g.plain())
				}
				g.same(t)
				g.tell(w)
				g.goOn(t, 60)
			}
		}
	}
}

// 31.1 and 31.2: the same of two steps that are at most five apart, with the words that the chapters tell apart.
func TestWhateverIsFoundTwice(t *testing.T) {
	for _, begin := range somePairs(2) {
		for n := 0; n < 22; n++ {
			for m := n + 1; m < n+6; m++ {
				for i := range 7 {
					for j := range 7 {
						g := begin()
						for at := 0; g.same(t) && at < m+20; at++ {
							some := g.choices()
							switch {
							case at == n && i < len(some):
								g.tell(some[i])
							case at == m && j < len(some):
								g.tell(some[j])
							default:
								g.tell(g.plain())
							}
						}
						g.slow.end()
					}
				}
			}
		}
	}
}

// anyDeadline is a deadline of chance, or of the edges, mostly one with which a call starts a timer.
func anyDeadline(r *rand.Rand) int {
	switch r.Intn(8) {
	case 0:
		return int(r.Uint64())
	case 1:
		return wrongDeadlines[r.Intn(len(wrongDeadlines))]
	case 2:
		return rightDeadlines[r.Intn(len(rightDeadlines))]
	}
	return r.Intn(30)
}

// 31.1 and 31.2: words of chance, of which most are such as the chapters tell apart, of all plans, threads, indexes, deadlines and draws.
func TestWordsOfChance(t *testing.T) {
	r := rand.New(rand.NewSource(31))
	done, under, full, wrong, retired := 0, 0, 0, 0, 0
	for _, p := range allPlans() {
		for range 150 {
			var g *pair
			n := draws[r.Intn(len(draws))].n
			if r.Intn(3) == 0 {
				g = job{p, indexes[r.Intn(len(indexes))], anyDeadline(r), n}.pair()
			} else {
				g = calls(p, threadsOf(p)[r.Intn(14)], anyDeadline(r), n).pair(api.Retired{Ref: anyWord(r), Epoch: anyWord(r)})
			}
			before := g.limbo.Len()
			for i := 0; g.same(t) && i < 200; i++ {
				g.tell(g.luck(r))
			}
			switch {
			case g.slow.more:
				under++
			case g.slow.answer.Err == 3:
				full++
			case g.slow.answer.Err == 2:
				wrong++
			default:
				done++
			}
			if g.limbo.Len() > before {
				retired++
			}
			g.slow.end()
		}
	}
	if done < 5000 || under < 500 || full < 300 || wrong < 500 || retired < 300 {
		t.Errorf("%d are done, %d under way, %d full, %d wrong; %d slots were retired", done, under, full, wrong, retired)
	}
}

// hard makes a starter of which the steps are those of hardCourse, and an inserter of which they are hardSteps.
func hard(l *limbo.Limbo) *Starter { return Start(small, 1, api.Call{Deadline: 20, Draw: 1}, l) }
func hardInsert() *Inserter        { return Insert(small, nil, 3, 20, 1) }
func hardCourse() []step {
	ahead := []step{{read(0, 0), 7}, {put(5, 7, 0), 0}, {read(3, 0), 3}, {read(33, 0), 0}, {swap(3, 3, half, 0), 3}}
	return slices.Concat(ahead, hardSteps, []step{{put(5, 0, 0), 7}})
}

// hardAnswer and hardAct are what such a starter tells behind its end.
var (
	hardAnswer = api.Answer{Ok: true, Handle: 9*half + 3}
	hardAct    = api.Act{Kind: 1, Handle: 9*half + 3, Deadline: 20, Step: 5 + hardLives}
)

// 31.1 and 31.2: asking changes nothing, however often: at each step, and at the end.
func TestAskingChangesNothing(t *testing.T) {
	l := limbo.New()
	k, i := hard(l), hardInsert()
	for _, s := range hardCourse() {
		for range 50 {
			asks(t, k, s.asked)
			answers(t, k, api.Answer{}, k.Acts()...)
		}
		k.Tell(s.found)
	}
	for _, s := range hardSteps {
		for range 50 {
			asks(t, i, s.asked)
			lives(t, i, i.Lives(), i.Handle())
		}
		i.Tell(s.found)
	}
	for range 50 {
		ended(t, k)
		answers(t, k, hardAnswer, hardAct)
		ended(t, i)
		lives(t, i, true, 9*half+3)
	}
	waits(t, l, api.Retired{Ref: mine, Epoch: 12})
}

// 31.1 and 31.2: a task is told ahead of being asked, and goes on all the same; so do its answers.
func TestTellAheadOfNext(t *testing.T) {
	course := hardCourse()
	for n := range course {
		k := hard(nil)
		for _, s := range course[:n] {
			k.Tell(s.found)
		}
		asks(t, k, course[n].asked)
	}
	for n := range hardSteps {
		k := hardInsert()
		for _, s := range hardSteps[:n] {
			k.Tell(s.found)
		}
		lives(t, k, n >= hardLives, []uint64{0, 9*half + 3}[min(n/hardLives, 1)])
		asks(t, k, hardSteps[n].asked)
	}
	l := limbo.New()
	k := hard(l)
	for _, s := range course {
		k.Tell(s.found)
	}
	answers(t, k, hardAnswer, hardAct)
	waits(t, l, api.Retired{Ref: mine, Epoch: 12})
}

// 31.1, 31.2 and R7: an inserter or a starter that is nil, or that no call made, is done, stays so, does nothing, and tells nothing.
func TestTasksThatNoCallMade(t *testing.T) {
	var none *Inserter
	var no *Starter
	for _, k := range []*Inserter{none, {}, new(Inserter)} {
		lives(t, k, false, 0)
		ended(t, k)
		c := made(t, small)
		stand := c.Words()
		if l := task.Play(c, k, 9); len(l) != 0 {
			t.Errorf("%v was found", l)
		}
		stands(t, c, stand)
		lives(t, k, false, 0)
	}
	for _, k := range []*Starter{no, {}, new(Starter)} {
		answers(t, k, api.Answer{})
		ended(t, k)
		c := made(t, small)
		stand := c.Words()
		if l := task.Play(c, k, 9); len(l) != 0 {
			t.Errorf("%v was found", l)
		}
		stands(t, c, stand)
		answers(t, k, api.Answer{})
	}
}

// 31.1 and 31.2: each task goes its own way, of the same call and of others, with the same limbo and with another one.
func TestTasksAreApart(t *testing.T) {
	l, m := limbo.New(), limbo.New()
	x, y, z := hard(l), hard(l), hard(m)
	other, wrong := Insert(flat, m, 1, 3, 0), Start(small, 0, api.Call{Deadline: -1}, l)
	for _, s := range hardCourse() {
		asks(t, x, s.asked)
		asks(t, y, read(0, 0))
		asks(t, z, read(0, 0))
		asks(t, other, read(8, 0))
		answers(t, wrong, api.Answer{Err: 2})
		x.Tell(s.found)
	}
	answers(t, y, api.Answer{})
	waits(t, l, api.Retired{Ref: mine, Epoch: 12})
	waits(t, m)
	goes(t, z, hardCourse()...)
	waits(t, m, api.Retired{Ref: mine, Epoch: 12})
	goes(t, y, hardCourse()...)
	waits(t, l, api.Retired{Ref: mine, Epoch: 12}, api.Retired{Ref: mine, Epoch: 12})
	goes(t, other, step{read(8, 0), 0})
	lives(t, other, false, 0)
	for _, k := range []*Starter{x, y, z} {
		answers(t, k, hardAnswer, hardAct)
		ended(t, k)
	}
}

// 31.2 and R4: the acts that were told are the asker's own.
func TestActsAreNew(t *testing.T) {
	k := hard(nil)
	goes(t, k, hardCourse()[:40]...)
	k.Acts()[0] = api.Act{}
	_ = append(k.Acts(), api.Act{Kind: 2})
	answers(t, k, api.Answer{}, hardAct)
	goes(t, k, hardCourse()[40:]...)
	k.Acts()[0].Step = 1
	answers(t, k, hardAnswer, hardAct)
}

// 31.1 and 31.2: it goes on as long as Swaps find other words, again and again, and keeps nothing of that; the act stands where it begins to live, however late.
func TestAgainAndAgain(t *testing.T) {
	k := Start(flat, 0, api.Call{Deadline: 5}, nil)
	goes(t, k, exampleSteps[:2]...)
	for n := range uint64(3000) {
		goes(t, k, step{read(3, 0), n*half + 1}, step{read(13, 0), n % 2}, step{swap(3, n*half+1, (n+1)*half+n%2, 0), n})
	}
	goes(t, k, exampleSteps[2:12]...)
	for n := range uint64(3000) {
		goes(t, k, step{read(7, 0), 0}, step{put(14, 0, 2), 0}, step{swap(7, 0, 2, 0), n + 1})
	}
	goes(t, k, exampleSteps[12:15]...)
	answers(t, k, api.Answer{})
	goes(t, k, exampleSteps[15:]...)
	answers(t, k, api.Answer{Ok: true, Handle: 1}, api.Act{Kind: 1, Handle: 1, Deadline: 5, Step: 18016})
}

// 31.1 and 31.2: where there is no memory each deed finds 0: so no slot is free; and an inserter goes to its end.
func TestNoMemory(t *testing.T) {
	for _, c := range []*cells.Cells{nil, new(cells.Cells)} {
		for _, p := range allPlans() {
			k := Start(p, 0, api.Call{Deadline: 5, Draw: 3}, nil)
			if l := task.Play(c, k, 99); !slices.Equal(l, []uint64{0, 0, 0, 0}) {
				t.Fatalf("%v was found of no memory", l)
			}
			answers(t, k, api.Answer{Err: 3}, api.Act{Kind: 5, Step: 3})
			g := job{p, 1, 5, 3}.pair()
			other := g.slow
			if found, want := task.Play(c, g.fast, 300), task.Play(c, other, 300); !slices.Equal(found, want) {
				t.Fatalf("%v was found of no memory, not %v", found, want)
			}
			g.same(t)
			g.slow.end()
		}
	}
}

// 31.1 and 31.2: of plans that are not right, and of memories of any words, the words that there are turn as the steps say, wherever the sums put them.
func TestAnyMemory(t *testing.T) {
	r := rand.New(rand.NewSource(311))
	some := func() uint64 { return ref(uint64(r.Intn(2)), r.Intn(6)) + uint64(r.Intn(8)/7) }
	done, full := 0, 0
	for _, p := range allPlans() {
		for range 40 {
			l := make([]uint64, r.Intn(120))
			for at := range l {
				l[at] = some()
				if r.Intn(9) == 0 {
					l[at] = words[r.Intn(len(words))]
				}
			}
			var g *pair
			if r.Intn(3) == 0 {
				g = job{p, r.Intn(7) - 1, r.Intn(20), uint64(r.Intn(16))}.pair()
			} else {
				g = calls(p, r.Intn(9)-1, r.Intn(20), uint64(r.Intn(16))).pair()
				if len(l) > 3 && r.Intn(3) > 0 {
					l[3] = uint64(r.Intn(4))*half + uint64(r.Intn(7))
				}
			}
			c, other := memory(t, l), memory(t, l)
			found, want := task.Play(c, g.fast, 120), task.Play(other, g.slow, 120)
			if !slices.Equal(found, want) {
				t.Fatalf("%v was found, not %v", found, want)
			}
			stands(t, c, other.Words())
			if !g.same(t) {
				done++
			}
			if g.slow.answer.Err == 3 {
				full++
			}
			g.slow.end()
		}
	}
	if done-full < 500 || full < 300 {
		t.Errorf("%d are done, and %d of them found no slot", done, full)
	}
}

// member is a slot that is in chains: its reference, its key, whether it is in the chain of a level, and whether it is going out of it.
type member struct {
	ref     uint64
	key     api.Key
	in, out [api.MaxLevels]bool
}

// less tells whether a key is less than another one, by chapter 3's sentence.
func less(x, y api.Key) bool {
	return x.Deadline < y.Deadline || x.Deadline == y.Deadline && x.Seq < y.Seq
}

// sorted sorts members by their keys, of which none is there twice.
func sorted(l []member) []member {
	slices.SortFunc(l, func(x, y member) int {
		if less(x.key, y.key) {
			return -1
		}
		return 1
	})
	return l
}

// lay lays the chains of sorted members on the words of a plan, each way on of which the slot is going out of the chain with a mark; who goes out of one is taken, and all others are live.
func lay(stand []uint64, p api.Plan, l []member) {
	for _, m := range l {
		slot := indexOf(m.ref)
		stand[deadAt(p, slot)], stand[seqAt(p, slot)] = word(m.key.Deadline), m.key.Seq
		stand[stateAt(p, slot)], stand[holdAt(p, slot)] = m.ref/half*half+2, 1
		if slices.Contains(m.out[:], true) {
			stand[stateAt(p, slot)]++
		}
	}
	for h := range p.Levels {
		from, mark := 0, uint64(0)
		end := member{}
		end.in[h] = true
		for _, m := range append(slices.Clone(l), end) {
			if !m.in[h] {
				continue
			}
			stand[nextAt(p, from, h)] = m.ref + mark
			from, mark = indexOf(m.ref), 0
			if m.out[h] {
				mark = 1
			}
		}
	}
}

// setFree lets just these slots be free, the first one at the top.
func setFree(stand []uint64, p api.Plan, l ...int) {
	at := 3
	for _, slot := range l {
		stand[at] = stand[at]/half*half + word(slot)
		at = succAt(p, slot)
	}
	stand[at] = stand[at] / half * half
}

// walk tells those that stand in the chain of a level of a memory, from the head on, and which of them are there without a mark.
func walk(t *testing.T, stand []uint64, p api.Plan, level int) (all, staying []uint64) {
	t.Helper()
	w := stand[nextAt(p, 0, level)]
	for n := 0; w%half > 1; n++ {
		if n > p.Slots {
			t.Fatalf("the chain of the level %d does not end", level)
		}
		r := w - w%2
		w = stand[nextAt(p, indexOf(r), level)]
		all = append(all, r)
		if w%2 == 0 {
			staying = append(staying, r)
		}
	}
	return all, staying
}

// keyOf is the key of the timer in a slot of a memory.
func keyOf(stand []uint64, p api.Plan, slot int) api.Key {
	return api.Key{Deadline: int(stand[deadAt(p, slot)]), Seq: stand[seqAt(p, slot)]}
}

// rises asks whether all chains of a memory rise.
func rises(t *testing.T, stand []uint64, p api.Plan) {
	t.Helper()
	for h := range p.Levels {
		all, _ := walk(t, stand, p, h)
		for i := 1; i < len(all); i++ {
			if !less(keyOf(stand, p, indexOf(all[i-1])), keyOf(stand, p, indexOf(all[i]))) {
				t.Fatalf("the chain %v of the level %d does not rise at the place %d", all, h, i)
			}
		}
	}
}

// without asks whether a timer is in no chain of a memory.
func without(t *testing.T, stand []uint64, p api.Plan, r uint64) {
	t.Helper()
	for h := range p.Levels {
		if in, _ := walk(t, stand, p, h); slices.Contains(in, r) {
			t.Fatalf("%d is in the chain %v of the level %d", r, in, h)
		}
	}
}

// behind is a chain with r put in ahead of the first one that is not less than its key.
func behind(stand []uint64, p api.Plan, chain []uint64, r uint64, key api.Key) []uint64 {
	for i, other := range chain {
		if !less(keyOf(stand, p, indexOf(other)), key) {
			return slices.Insert(slices.Clone(chain), i, r)
		}
	}
	return append(slices.Clone(chain), r)
}

// alone starts a timer, alone, where all is as chapter 18's sentence has it, and tells its handle: it is live then, and stands in the chains below its height, the lowest one first of all, where its key is; who sleeps too long is woken; and all others are there as they were. With no slot free nothing is changed.
func alone(t *testing.T, c *cells.Cells, q ask) uint64 {
	t.Helper()
	p, stand := q.plan, c.Words()
	g, other := q.pair(), memory(t, stand)
	if found, want := task.Play(c, g.fast, 9000), task.Play(other, g.slow, 9000); !slices.Equal(found, want) {
		t.Fatalf("%v was found, not %v", found, want)
	}
	if g.same(t) {
		t.Fatalf("%s does not end", g.of)
	}
	k, now := g.fast.(*Starter), c.Words()
	stands(t, other, now)
	waits(t, g.limbo)
	want := slices.Clone(stand)
	want[pinAt(p, q.thread)] = 0
	slot := int(stand[3] % half)
	if slot == 0 {
		stands(t, c, want)
		answers(t, k, api.Answer{Err: 3}, api.Act{Kind: 5, Step: 3})
		return 0
	}
	gen, tall := stand[stateAt(p, slot)]/half, heightOf(q.call.Draw, p.Levels)
	h, r, key := gen*half+word(slot), ref(gen, slot), api.Key{Deadline: q.call.Deadline, Seq: stand[2]}
	answers(t, k, api.Answer{Ok: true, Handle: h}, k.Acts()...)
	if l := k.Acts(); len(l) != 1 || l[0] != (api.Act{Kind: 1, Handle: h, Deadline: q.call.Deadline, Step: l[0].Step}) {
		t.Fatalf("%+v was done", l)
	}
	want[2]++
	want[3] = (stand[3]/half+1)%half*half + stand[succAt(p, slot)]%half
	want[stateAt(p, slot)], want[deadAt(p, slot)], want[seqAt(p, slot)] = gen*half+2, word(key.Deadline), key.Seq
	want[tallAt(p, slot)], want[holdAt(p, slot)] = word(tall), 1
	for thread := range p.Threads {
		if till := stand[sleepAt(p, thread)]; till > word(q.call.Deadline)+1 {
			want[semAt(p, thread)]++
		}
	}
	for h := range p.Levels {
		for n := range p.Slots + 1 {
			want[nextAt(p, n, h)] = now[nextAt(p, n, h)]
		}
		_, was := walk(t, stand, p, h)
		_, is := walk(t, now, p, h)
		if h < tall {
			was = behind(stand, p, was, r, key)
		}
		if !slices.Equal(was, is) {
			t.Fatalf("%v are in the chain of the level %d, not %v", is, h, was)
		}
	}
	stands(t, c, want)
	rises(t, now, p)
	return h
}

// 31.3: done alone, in all chains of two other slots and two levels that the chapters tell apart (in each chain, not in it, going out of it), in both orders, of deadlines and numbers ahead of both, between them, behind them, and just like theirs, of each height.
func TestAloneInAllSmallChains(t *testing.T) {
	keys := []api.Key{{Deadline: 4, Seq: 4}, {Deadline: 6, Seq: 8}}
	// Of two levels, from the lower one on: in the chain (1), going out of it (2), or not in it (0). Whoever stays in the higher one stays in the lower one too.
	ways := [][2]int{{0, 0}, {2, 0}, {0, 2}, {2, 2}, {1, 0}, {1, 2}, {1, 1}}
	for n := range 3 * 98 {
		way, own := n/2%49, 1+n/98
		slots := []int{own%3 + 1, (own+1)%3 + 1}
		if n%2 == 1 {
			slices.Reverse(slots)
		}
		l := make([]member, 2)
		for i, one := range []int{way / 7, way % 7} {
			l[i] = member{ref: ref(uint64(i)*lastGen/2, slots[i]), key: keys[i]}
			for h, state := range ways[one] {
				l[i].in[h], l[i].out[h] = state != 0, state == 2
			}
		}
		for dead := 3; dead <= 7; dead++ {
			for _, seq := range []uint64{0, 3, 5, 7, 9, most} {
				for draw := range uint64(2) {
					stand := made(t, small).Words()
					lay(stand, small, l)
					setFree(stand, small, own)
					stand[2], stand[stateAt(small, own)], stand[7] = seq, words[n%len(words)]/half*half, word(dead)+draw*2
					// What stood in the slot stands there still.
					stand[nextAt(small, own, 0)], stand[nextAt(small, own, 1)] = am, words[n%len(words)]
					alone(t, memory(t, stand), calls(small, 0, dead, draw))
				}
			}
		}
	}
}

// anyMember is a member of chance, of a slot, below a height in all chains, in some, or in none, of which the ways on are marked in the mean in one of so many cases, from above.
func anyMember(r *rand.Rand, slot, tall, outs int) member {
	m := member{ref: ref([]uint64{0, 1, uint64(r.Uint32()), lastGen}[r.Intn(4)], slot)}
	stay := tall
	if r.Intn(outs) == 0 {
		stay = r.Intn(tall + 1)
	}
	for h := range tall {
		m.out[h] = h >= stay
		m.in[h] = h < stay || r.Intn(3) > 0
	}
	return m
}

// newKey makes a key that none of members has, nor is k.
func newKey(r *rand.Rand, l []member, k api.Key) api.Key {
	for {
		other := api.Key{Deadline: r.Intn(9), Seq: uint64(r.Intn(20))}
		if r.Intn(4) == 0 {
			other = api.Key{Deadline: rightDeadlines[r.Intn(len(rightDeadlines))], Seq: words[r.Intn(len(words))]}
		}
		if other != k && !slices.ContainsFunc(l, func(m member) bool { return m.key == other }) {
			return other
		}
	}
}

// 31.3: done alone, in chains of chance of all right plans, with no other slot, with one and with many, with none going out, with some, and with all; with many slots free, with one alone, and with none; by any thread, while others sleep and are pinned.
func TestAloneInChainsOfChance(t *testing.T) {
	r := rand.New(rand.NewSource(313))
	full := 0
	for _, p := range rightPlans() {
		for _, outs := range []int{1, 2, 5, 1 << 30} {
			for range 12 {
				stand := made(t, p).Words()
				key := newKey(r, nil, api.Key{})
				stand[0], stand[2], stand[3] = words[r.Intn(len(words))], key.Seq, words[r.Intn(len(words))]
				perm := r.Perm(p.Slots)
				free := min(r.Intn(3), p.Slots)
				if r.Intn(3) == 0 {
					free = p.Slots - r.Intn(p.Slots)
				}
				var l []member
				var top []int
				for i, n := range perm {
					if i < free {
						top = append(top, n+1)
						stand[stateAt(p, n+1)] = uint64(r.Uint32()) * half
						for h := range p.Levels {
							stand[nextAt(p, n+1, h)] = anyWord(r)
						}
						continue
					}
					m := anyMember(r, n+1, 1+r.Intn(p.Levels), outs)
					m.key = newKey(r, l, key)
					l = append(l, m)
				}
				lay(stand, p, sorted(l))
				setFree(stand, p, top...)
				for thread := range p.Threads {
					stand[pinAt(p, thread)] = words[r.Intn(4)]
					stand[semAt(p, thread)] = words[r.Intn(len(words))]
					if r.Intn(2) == 0 {
						stand[sleepAt(p, thread)] = word(key.Deadline + r.Intn(5))
					}
				}
				if alone(t, memory(t, stand), calls(p, r.Intn(p.Threads), key.Deadline, r.Uint64()%256)) == 0 {
					full++
				}
			}
		}
	}
	if full < 100 {
		t.Errorf("%d found no slot", full)
	}
}

// 31.3: from the beginning on one timer is started behind the other, till no slot is free, and some more are: all are live then, and stand in the lowest chain by their deadlines and numbers; no two have one handle.
func TestOneBehindTheOther(t *testing.T) {
	r := rand.New(rand.NewSource(314))
	for _, p := range rightPlans() {
		for i, serial := range []uint64{0, 7, most - 1, most} {
			c := made(t, p)
			c.Store(2, serial)
			var handles []uint64
			for n := range p.Slots {
				dead := []int{r.Intn(4), 9 - n, n, rightDeadlines[r.Intn(len(rightDeadlines))]}[(i+n/8)%4]
				h := alone(t, c, calls(p, n%p.Threads, max(dead, 0), r.Uint64()%512))
				if h == 0 || slices.Contains(handles, h) {
					t.Fatalf("the handle %d is answered behind %v", h, handles)
				}
				handles = append(handles, h)
			}
			stand := c.Words()
			for range 3 {
				if h := alone(t, c, calls(p, p.Threads-1, r.Intn(9), r.Uint64())); h != 0 {
					t.Fatalf("the handle %d is answered, where no slot is free", h)
				}
				stands(t, c, stand)
			}
			if all, staying := walk(t, stand, p, 0); len(all) != p.Slots || len(staying) != p.Slots {
				t.Fatalf("%v are in the lowest chain", all)
			}
			if stand[2] != serial+word(p.Slots) {
				t.Fatalf("the next number is %d", stand[2])
			}
		}
	}
}

// chain tells the deadlines of the timers in the lowest chain.
func chain(t *testing.T, c *cells.Cells, p api.Plan) []int {
	t.Helper()
	all, _ := walk(t, c.Words(), p, 0)
	var l []int
	for _, r := range all {
		l = append(l, keyOf(c.Words(), p, indexOf(r)).Deadline)
	}
	return l
}

// 31.3: in numbers: where timers of deadlines below, just like, and above those in the chain come to stand; of one deadline the one that was started later stands behind.
func TestPlacesInTheChain(t *testing.T) {
	p := api.Plan{Threads: 1, Slots: 8, Levels: 3}
	c := made(t, p)
	for _, row := range []struct {
		dead  int
		draw  uint64
		chain []uint64 // the slots, from the head on
	}{
		{5, 0, []uint64{1}},
		{5, 1, []uint64{1, 2}},
		{7, 3, []uint64{1, 2, 3}},
		{0, 0, []uint64{4, 1, 2, 3}},
		{maxTime, 1, []uint64{4, 1, 2, 3, 5}},
		{6, 0, []uint64{4, 1, 2, 6, 3, 5}},
		{5, 7, []uint64{4, 1, 2, 7, 6, 3, 5}},
		{0, 1, []uint64{4, 8, 1, 2, 7, 6, 3, 5}},
	} {
		alone(t, c, calls(p, 0, row.dead, row.draw))
		all, _ := walk(t, c.Words(), p, 0)
		for i, r := range all {
			all[i] = r % half / 2
		}
		if !slices.Equal(all, row.chain) {
			t.Fatalf("%v are in the lowest chain, not %v", all, row.chain)
		}
	}
	if l := chain(t, c, p); !slices.Equal(l, []int{0, 0, 5, 5, 5, 6, 7, maxTime}) {
		t.Errorf("the deadlines are %v", l)
	}
}

// 31.3: the number of the next start is 2^64 - 1, and 0 behind it: of two timers of one deadline the later one, of the number 0, stands ahead.
func TestLastNumber(t *testing.T) {
	c := made(t, small)
	c.Store(2, most)
	alone(t, c, calls(small, 0, 5, 0))
	alone(t, c, calls(small, 0, 5, 0))
	if all, _ := walk(t, c.Words(), small, 0); !slices.Equal(all, []uint64{9*half + 4, 9*half + 2}) || c.Load(14) != most || c.Load(22) != 0 || c.Load(2) != 1 {
		t.Errorf("%v are in the chain, of the numbers %d and %d", all, c.Load(14), c.Load(22))
	}
}

// 31.3: a slot of the last generation is used as any other one; so is one of which the free slots' head was turned as often as it counts.
func TestLastGeneration(t *testing.T) {
	p := api.Plan{Threads: 1, Slots: 1, Levels: 1, Gen: lastGen}
	c := made(t, p)
	c.Store(3, lastGen*half+1)
	if h := alone(t, c, calls(p, 0, 5, 0)); h != lastGen*half+1 || c.Load(8) != lastGen*half+2 || c.Load(3) != 0 {
		t.Errorf("the handle is %d, the state %d, the head %d", h, c.Load(8), c.Load(3))
	}
}

// 31.3: in numbers: of those who sleep just those are woken who do so till a later deadline than the timer's.
func TestSleepers(t *testing.T) {
	p := api.Plan{Threads: 8, Slots: 2, Levels: 1}
	for _, row := range []struct {
		dead         int
		sleep, woken []uint64
	}{
		{0, []uint64{0, 1, 2, 3, 9, maxTime + 1, maxTime + 2, most}, []uint64{0, 0, 1, 1, 1, 1, 1, 1}},
		{5, []uint64{0, 1, 5, 6, 7, 8, maxTime + 2, 1 << 63}, []uint64{0, 0, 0, 0, 1, 1, 1, 1}},
		{maxTime, []uint64{0, 1, 6, maxTime, maxTime + 1, maxTime + 2, maxTime + 3, most}, []uint64{0, 0, 0, 0, 0, 1, 1, 1}},
	} {
		c := made(t, p)
		for thread, w := range row.sleep {
			c.Store(12+thread, w)
		}
		alone(t, c, calls(p, 7, row.dead, 0))
		var woken []uint64
		for thread := range 8 {
			woken = append(woken, c.Load(20+thread))
		}
		if !slices.Equal(woken, row.woken) {
			t.Fatalf("%v were woken by %d, not %v", woken, row.dead, row.woken)
		}
	}
}

// taker is somebody who takes a timer, if it is live, and takes it out of all chains, with a limbo of its own.
type taker struct {
	task.Flow
	claim *claim.Claimer
	limbo *limbo.Limbo
}

// take makes the taker of a timer, by a thread.
func take(p api.Plan, thread int, r uint64, key api.Key) *taker {
	s := &taker{claim: claim.Claim(p, r), limbo: limbo.New()}
	leave := func() { s.To(pin.Unpin(p, thread), nil) }
	s.To(pin.Pin(p, thread), func() {
		s.To(s.claim, func() {
			if !s.claim.Won() {
				leave()
				return
			}
			f := finish.Finish(p, r, key)
			s.To(f, func() {
				if gone, ok := f.Retired(); ok {
					s.limbo.Add(gone.Ref, gone.Epoch)
				}
				leave()
			})
		})
	})
	return s
}

// 31.1 and 31.2: somebody takes the timer while it is being started: behind each of the starter's steps, and going on behind each of the taker's own. It is taken just if it began to live ahead of that; the slot is retired once then, into the limbo of who lets go last, and the timer is in no chain, while the others stay. What the starter answers is the same.
func TestTakenWhileItIsStarted(t *testing.T) {
	p := api.Plan{Threads: 2, Slots: 3, Levels: 2}
	begin := made(t, p)
	for n := range 2 {
		alone(t, begin, calls(p, 0, 4+2*n, 1))
	}
	r, key := ref(0, 3), api.Key{Deadline: 5, Seq: 2}
	byStarter, byTaker := 0, 0
	for n := range 40 {
		for m := range 40 {
			c, g := memory(t, begin.Words()), calls(p, 0, 5, 1).pair()
			k, s := g.fast.(*Starter), take(p, 1, r, key)
			g.slow.end()
			// It is taken by a thread that may have stood still since long, so the epoch may have gone on.
			task.Play(c, k, n)
			live := len(k.Acts()) > 0
			task.Play(c, s, min(m, 2))
			task.Play(c, s, max(m-2, 0))
			if m < 3 {
				live = false
			}
			c.Store(0, 50)
			task.Play(c, k, 99)
			task.Play(c, s, 99)
			ended(t, k)
			answers(t, k, api.Answer{Ok: true, Handle: 3}, k.Acts()...)
			if live && !s.claim.Won() {
				t.Fatalf("a timer that is live is not taken at %d and %d", n, m)
			}
			one, other := g.limbo.All(), s.limbo.All()
			if !s.claim.Won() {
				if len(one)+len(other) > 0 || c.Load(stateAt(p, 3)) != 2 || c.Load(holdAt(p, 3)) != 1 {
					t.Fatalf("%v and %v wait, though it is live, at %d and %d", one, other, n, m)
				}
				continue
			}
			if len(one)+len(other) != 1 || append(one, other...)[0].Ref != r {
				t.Fatalf("%v and %v wait, at %d and %d", one, other, n, m)
			}
			byStarter += len(one)
			byTaker += len(other)
			without(t, c.Words(), p, r)
			for h := range 2 {
				if in, staying := walk(t, c.Words(), p, h); !slices.Equal(in, []uint64{2, 4}) || len(staying) != 2 {
					t.Fatalf("%v are in the chain of the level %d", in, h)
				}
			}
		}
	}
	if byStarter < 20 || byTaker < 100 {
		t.Errorf("%d were retired by the starter, %d by the taker", byStarter, byTaker)
	}
}

// 31.1 to 31.3: calls of all threads by turns, each held against its tale: each act stands where the state of its slot turns; no two timers have one handle; ErrFull is answered just if no slot was free; those that nobody takes are live in the end, in all chains below their heights, and of those that somebody takes each one is retired once.
func TestInTurns(t *testing.T) {
	r := rand.New(rand.NewSource(315))
	full, byStarter, byTaker := 0, 0, 0
	for _, p := range rightPlans() {
		for range 4 {
			c := made(t, p)
			now, takers := make([]*pair, p.Threads), make([]*taker, p.Threads)
			var handles []uint64
			taken, gone := map[uint64]bool{}, map[uint64]int{}
			still, till := 0, 0
			for n, left := 0, p.Slots+3; ; n++ {
				thread := r.Intn(p.Threads)
				if thread == still && n < till && p.Threads > 1 {
					continue
				}
				if s := takers[thread]; s != nil {
					if len(task.Play(c, s, 1)) == 0 {
						for _, one := range s.limbo.All() {
							gone[one.Ref]++
							byTaker++
						}
						takers[thread] = nil
					}
					continue
				}
				if now[thread] == nil {
					if left > 0 && r.Intn(3) > 0 {
						left--
						now[thread] = calls(p, thread, r.Intn(6), r.Uint64()%64).pair()
					} else if h := anyOf(r, handles); h != 0 && !taken[h] && r.Intn(2) == 0 {
						x := ref(h/half, int(h%half))
						taken[h] = true
						takers[thread] = take(p, thread, x, keyOf(c.Words(), p, indexOf(x)))
					} else if left == 0 && !slices.ContainsFunc(now, func(g *pair) bool { return g != nil }) && !slices.ContainsFunc(takers, func(s *taker) bool { return s != nil }) {
						break
					}
					continue
				}
				g := now[thread]
				k, d := g.fast.(*Starter), g.slow.now
				acts := len(k.Acts())
				g.slow.Tell(task.Play(c, k, 1)[0])
				more := g.same(t)
				if l := k.Acts(); len(l) > acts && l[0].Kind == 1 {
					slot := int(l[0].Handle % half)
					if d != put(stateAt(p, slot), l[0].Handle/half*half+2, 0) || slices.Contains(handles, l[0].Handle) {
						t.Fatalf("%+v was done at %+v, while %v live", l[0], d, handles)
					}
					handles = append(handles, l[0].Handle)
					// Some stand still as soon as their timers live, so that others may take them ahead of their letting go.
					if r.Intn(3) == 0 {
						still, till = thread, n+60*p.Threads
					}
				} else if len(l) > acts && c.Load(3)%half != 0 {
					t.Fatalf("%+v was done, where a slot is free", l[0])
				} else if len(l) > acts {
					full++
				}
				if !more {
					for _, one := range g.limbo.All() {
						gone[one.Ref]++
						byStarter++
					}
					g.slow.end()
					now[thread] = nil
				}
			}
			stayed(t, c.Words(), p, handles, taken, gone)
		}
	}
	if full < 300 || byStarter < 50 || byTaker < 300 {
		t.Errorf("%d were full, %d retired by their starters, %d by their takers", full, byStarter, byTaker)
	}
}

// anyOf is one of some handles by chance, mostly the last one; 0, if there is none.
func anyOf(r *rand.Rand, handles []uint64) uint64 {
	if len(handles) == 0 {
		return 0
	}
	if r.Intn(3) > 0 {
		return handles[len(handles)-1]
	}
	return handles[r.Intn(len(handles))]
}

// stayed asks whether, when all have ended, of all timers that were started those that were taken are retired once, and just the others are live, and in the chains below their heights, without a mark, each held by one.
func stayed(t *testing.T, stand []uint64, p api.Plan, handles []uint64, taken map[uint64]bool, gone map[uint64]int) {
	t.Helper()
	want := make([][]uint64, p.Levels)
	if len(handles) != p.Slots {
		t.Fatalf("%d timers were started of %d", len(handles), p.Slots)
	}
	for _, h := range handles {
		slot := int(h % half)
		x := ref(h/half, slot)
		state, hold, retired := h/half*half+2, uint64(1), 0
		if taken[h] {
			state, hold, retired = state+1, 0, 1
		}
		if stand[stateAt(p, slot)] != state || stand[holdAt(p, slot)] != hold || gone[x] != retired {
			t.Fatalf("the state of %d is %d, it is held by %d, and was retired %d times", h, stand[stateAt(p, slot)], stand[holdAt(p, slot)], gone[x])
		}
		for level := range int(stand[tallAt(p, slot)]) {
			if !taken[h] {
				want[level] = append(want[level], x)
			}
		}
	}
	for level := range want {
		all, staying := walk(t, stand, p, level)
		slices.Sort(all)
		slices.Sort(want[level])
		if !slices.Equal(all, want[level]) || len(staying) != len(all) {
			t.Fatalf("%v are in the chain of the level %d, not %v", all, level, want[level])
		}
	}
	rises(t, stand, p)
}
