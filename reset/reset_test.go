package reset

import (
	"iter"
	"math"
	"math/rand"
	"slices"
	"testing"

	"sundial/api"
	"sundial/blank"
	"sundial/cells"
	"sundial/claim"
	"sundial/collect"
	"sundial/epoch"
	"sundial/finish"
	"sundial/give"
	"sundial/handle"
	"sundial/lift"
	"sundial/limbo"
	"sundial/link"
	"sundial/mint"
	"sundial/pin"
	"sundial/plan"
	"sundial/pool"
	"sundial/refer"
	"sundial/settle"
	"sundial/start"
	"sundial/state"
	"sundial/stop"
	"sundial/task"
	"sundial/wake"
)

// half is how often a high half goes into a word: a word is its high half times half, and its low half.
const half = 4294967296

// lastGen and lastIndex are the greatest generation and index that a reference has; maxTime is 2^60; least and greatest are the least and the greatest int, and most is the greatest word.
const (
	lastGen   = 4294967295
	lastIndex = 2147483647
	maxTime   = 1152921504606846976
	least     = -9223372036854775808
	greatest  = 9223372036854775807
	most      = 18446744073709551615
)

// words are the edges of a word; from 1<<63 on they are ints below 0.
var words = []uint64{0, 1, 2, 3, 4, 5, 7, 19, 20, 21, 22, 29, 30, 31, 64, 1<<31 - 1, 1 << 31, half - 1, half, half + 1, half + 2, half + 3, 1 << 60, 1<<63 - 1, 1 << 63, 1<<63 + 1, lastGen * half, lastGen*half + 1, lastGen*half + 2, most - 1, most}

// rightDeadlines and wrongDeadlines are the edges of a deadline that a call gives to a timer, and that it does not.
var (
	rightDeadlines = []int{0, 1, 2, 5, 1<<31 - 1, 1 << 31, 1<<32 - 1, 1 << 32, maxTime - 2, maxTime - 1, maxTime}
	wrongDeadlines = []int{-1, -2, -5, -1 << 31, -1 << 32, -maxTime, -maxTime - 1, least, least + 1, maxTime + 1, maxTime + 2, 1<<61 + 5, 1<<62 + 5, greatest - 1, greatest}
)

// draws are numbers that draw heights, and how high they would be without an end.
var draws = []struct {
	n    uint64
	tall int
}{{0, 1}, {1, 2}, {2, 1}, {3, 3}, {5, 2}, {6, 1}, {7, 4}, {11, 3}, {15, 5}, {127, 8}, {255, 9}, {half - 1, 33}, {half, 1}, {1<<63 - 1, 64}, {1 << 63, 1}, {most - 1, 1}, {most, 65}}

// gens are the edges of a generation.
var gens = []uint64{0, 1, 2, 9, 1<<31 - 1, 1 << 31, lastGen - 1, lastGen}

// flat, twice and small are plans. Of flat and twice the thread's words are at 4, 5 and 6, the head's way on at 7, the slots' words from 8 to 14, and from 15 to 21. Of small Pin is at 4 and 5, Sleep at 6 and 7, Sem at 8 and 9; the head's ways on are at 10 and 11; the slots' words State at 12, 20, 28 and 36, Dead at 13, 21, 29 and 37, Seq at 14, 22, 30 and 38, Tall at 15, 23, 31 and 39, Hold at 16, 24, 32 and 40, Succ at 17, 25, 33 and 41, Next from 18, 26, 34 and 42 on.
var (
	flat  = api.Plan{Threads: 1, Slots: 1, Levels: 1}
	twice = api.Plan{Threads: 1, Slots: 2, Levels: 1}
	small = api.Plan{Threads: 2, Slots: 4, Levels: 2, Gen: 9}
)

// a and b are references to the slots 1 and 2, and am and bm those with the mark; old is one to the slot 3, of the timer that gets another deadline, and oldm that with the mark; known is its handle; own is one to the slot 4, in which it is a new one, and fresh is the handle that it has there.
const (
	a     = 5*half + 2
	am    = 5*half + 3
	b     = 7*half + 4
	bm    = 7*half + 5
	old   = 9*half + 6
	oldm  = 9*half + 7
	known = 9*half + 3
	own   = 3*half + 8
	fresh = 3*half + 4
)

// rightPlans are such of which each number is the least, one between, or the greatest.
func rightPlans() []api.Plan {
	var l []api.Plan
	for _, threads := range []int{1, 3, 8} {
		for _, slots := range []int{1, 2, 5, 64} {
			for _, levels := range []int{1, 2, 4, 8} {
				l = append(l, api.Plan{Threads: threads, Slots: slots, Levels: levels, Gen: []uint64{0, 1, lastGen}[len(l)%3]})
			}
		}
	}
	return l
}

// wrongPlans are those of which one number alone is none that there is, and those of which several are.
func wrongPlans() []api.Plan {
	l := []api.Plan{{}, {Threads: -1, Slots: -1, Levels: -1}, {Threads: 9, Slots: 65, Levels: 9, Gen: half}, {Threads: math.MaxInt, Slots: math.MaxInt, Levels: math.MaxInt, Gen: math.MaxUint64}, {Threads: math.MinInt, Slots: math.MinInt, Levels: math.MinInt}}
	for _, n := range []int{math.MinInt, math.MinInt + 1, -1<<32 + 2, -64, -1, 0, 9, 65, 1000, 1 << 31, 1<<32 + 2, math.MaxInt - 1, math.MaxInt} {
		l = append(l, api.Plan{Threads: n, Slots: 3, Levels: 3}, api.Plan{Threads: 2, Slots: n, Levels: 3}, api.Plan{Threads: 2, Slots: 3, Levels: n})
	}
	for _, gen := range []uint64{half, half + 1, 1 << 63, math.MaxUint64} {
		l = append(l, api.Plan{Threads: 2, Slots: 3, Levels: 3, Gen: gen})
	}
	return l
}

// allPlans are those that are right, and those that are not.
func allPlans() []api.Plan {
	return append(rightPlans(), wrongPlans()...)
}

// threadsOf are threads of a plan, those beside them, and some that no plan has.
func threadsOf(p api.Plan) []int {
	return []int{0, p.Threads - 1, p.Threads, p.Threads + 1, -1, -4, -5, 8, 4096, 1 << 32, least, least + 4, greatest - 4, greatest}
}

// isKnown tells whether an index is one of a handle that may be known in a plan, by chapter 30's sentence.
func isKnown(p api.Plan, index uint64) bool {
	return index >= 1 && index <= lastIndex && int(index) <= p.Slots
}

// indexes are the edges of a handle's index in a plan: those that may be known there, or those that may not.
func indexes(p api.Plan, may bool) []uint64 {
	var l []uint64
	for _, n := range []uint64{0, 1, 2, 3, 4, word(p.Slots) % half, word(p.Slots+1) % half, 64, 65, 1000, 1 << 30, lastIndex - 1, lastIndex, lastIndex + 1, lastIndex + 2, lastGen - 1, lastGen} {
		if isKnown(p, n) == may && !slices.Contains(l, n) {
			l = append(l, n)
		}
	}
	return l
}

// ref puts a reference together, and indexOf tells the index of one.
func ref(gen uint64, index int) uint64 { return gen*half + 2*uint64(index) }
func indexOf(r uint64) int             { return int(r % half / 2) }

// word is a number as a word.
func word(n int) uint64 { return uint64(n) }

// Where words stand, by chapter 8's sums: a thread's ones, and a slot's ones; nextAt of the slot 0 is the head's way on.
func pinAt(p api.Plan, thread int) int   { return 4 + thread }
func sleepAt(p api.Plan, thread int) int { return 4 + p.Threads + thread }
func semAt(p api.Plan, thread int) int   { return 4 + 2*p.Threads + thread }
func stateAt(p api.Plan, slot int) int {
	return 4 + 3*p.Threads + p.Levels + (slot-1)*(6+p.Levels)
}
func deadAt(p api.Plan, slot int) int { return stateAt(p, slot) + 1 }
func seqAt(p api.Plan, slot int) int  { return stateAt(p, slot) + 2 }
func tallAt(p api.Plan, slot int) int { return stateAt(p, slot) + 3 }
func holdAt(p api.Plan, slot int) int { return stateAt(p, slot) + 4 }
func succAt(p api.Plan, slot int) int { return stateAt(p, slot) + 5 }
func nextAt(p api.Plan, slot, level int) int {
	if slot == 0 {
		return 4 + 3*p.Threads + level
	}
	return stateAt(p, slot) + 6 + level
}

// Deeds by the numbers of their kinds, for short.
func read(at int, by uint64) api.Deed   { return api.Deed{Kind: 1, At: at, By: by} }
func put(at int, w, by uint64) api.Deed { return api.Deed{Kind: 2, At: at, A: w, By: by} }
func swap(at int, was, w, by uint64) api.Deed {
	return api.Deed{Kind: 3, At: at, A: was, B: w, By: by}
}
func add(at int, w, by uint64) api.Deed { return api.Deed{Kind: 4, At: at, A: w, By: by} }

// Acts by the numbers of their kinds, for short; with no slot free the third deed is the one that finds none.
func started(h uint64, deadline, step int) api.Act {
	return api.Act{Kind: 1, Handle: h, Deadline: deadline, Step: step}
}
func stopped(h uint64, step int) api.Act { return api.Act{Kind: 3, Handle: h, Step: step} }
func missed(h uint64, step int) api.Act  { return api.Act{Kind: 4, Handle: h, Step: step} }
func full(step int) api.Act              { return api.Act{Kind: 5, Step: step} }

// yes is what a reset answers by which a timer got this handle.
func yes(h uint64) api.Answer { return api.Answer{Ok: true, Handle: h} }

// ask is what Reset is asked, but for the limbo.
type ask struct {
	plan   api.Plan
	thread int
	call   api.Call
}

// calls makes what Reset is asked of a plan, a thread, a handle, a deadline and a draw.
func calls(p api.Plan, thread int, h uint64, deadline int, n uint64) ask {
	return ask{p, thread, api.Call{Kind: api.CallReset, Handle: h, Deadline: deadline, Draw: n}}
}

// step is a deed that is asked for, and what is told then.
type step struct {
	asked api.Deed
	found uint64
}

// asks asks whether a task asks for d, again and again.
func asks(t *testing.T, k task.Task, d api.Deed) {
	t.Helper()
	for range 2 {
		if got, more := k.Next(); got != d || !more {
			t.Fatalf("%+v is asked for (%v), not %+v", got, more, d)
		}
	}
}

// goes asks whether a task asks for the deeds of l, and tells it what is found.
func goes(t *testing.T, k task.Task, l ...step) {
	t.Helper()
	for n, s := range l {
		if got, more := k.Next(); got != s.asked || !more {
			t.Fatalf("%+v is asked for (%v) at %d, not %+v", got, more, n+1, s.asked)
		}
		k.Tell(s.found)
	}
}

// ended asks whether a task is done, and stays so, whatever it is told.
func ended(t *testing.T, k task.Task) {
	t.Helper()
	for _, found := range []uint64{0, 1, 2, a, am, 20, 30, 9*half + 2, 1, most, 0} {
		if got, more := k.Next(); got != (api.Deed{}) || more {
			t.Fatalf("%+v is asked for (%v) by a task that is done", got, more)
		}
		k.Tell(found)
	}
	if got, more := k.Next(); got != (api.Deed{}) || more {
		t.Fatalf("a task that is done went on to %+v (%v)", got, more)
	}
}

// sameAnswer tells whether two answers are the same, a batch that is nil or empty being none.
func sameAnswer(x, y api.Answer) bool {
	return x.Err == y.Err && x.Ok == y.Ok && x.Handle == y.Handle && slices.Equal(x.Batch, y.Batch)
}

// answers asks whether a resetter tells this answer and these acts, again and again.
func answers(t *testing.T, k *Resetter, want api.Answer, acts ...api.Act) {
	t.Helper()
	for range 2 {
		if got := k.Answer(); !sameAnswer(got, want) {
			t.Fatalf("%+v is answered, not %+v", got, want)
		}
		if got := k.Acts(); !slices.Equal(got, acts) {
			t.Fatalf("%+v was done, not %+v", got, acts)
		}
	}
}

// waiting makes a limbo with these slots.
func waiting(l ...api.Retired) *limbo.Limbo {
	w := limbo.New()
	for _, r := range l {
		w.Add(r.Ref, r.Epoch)
	}
	return w
}

// waits asks whether just these slots wait in a limbo.
func waits(t *testing.T, l *limbo.Limbo, want ...api.Retired) {
	t.Helper()
	if got := l.All(); !slices.Equal(got, want) {
		t.Fatalf("%+v wait, not %+v", got, want)
	}
}

// At which of the chapters' steps a task is.
const (
	pinning = iota
	popping
	claiming
	reading
	finishing
	pushing
	minting
	linking
	living
	lifting
	settling
	waking
	leaving
	over
)

// tale is the task that goes as a story says, in which the chapters' sentences are written down one behind the other.
type tale struct {
	next   func() (api.Deed, bool)
	end    func() // lets go of a tale that nobody asks any more
	yield  func(api.Deed) bool
	now    api.Deed
	more   bool
	found  uint64
	steps  int // how many deeds were told
	at     int
	ref    uint64  // of the timer that is stopped
	key    api.Key // of that one, and then of the one that is started
	won    bool
	answer api.Answer
	acts   []api.Act
	limbo  *limbo.Limbo
}

// leftEarly is what ends a story that nobody asks any more.
type leftEarly struct{}

// tell makes the tale of a story.
func tell(l *limbo.Limbo, story func(s *tale)) *tale {
	s := &tale{limbo: l}
	s.next, s.end = iter.Pull(func(yield func(api.Deed) bool) {
		defer func() {
			if r := recover(); r != nil && r != any(leftEarly{}) {
				panic(r)
			}
		}()
		s.yield = yield
		story(s)
		s.at = over
	})
	s.now, s.more = s.next()
	return s
}

func (s *tale) Next() (api.Deed, bool) { return s.now, s.more }

func (s *tale) Tell(found uint64) {
	if s.more {
		s.steps++
		s.found = found
		s.now, s.more = s.next()
	}
}

// do asks for a deed of the story, and tells what is found by it.
func (s *tale) do(d api.Deed) uint64 {
	if !s.yield(d) {
		panic(leftEarly{})
	}
	return s.found
}

// all does the steps of a task of another layer.
func (s *tale) all(at int, k task.Task) {
	s.at = at
	for {
		d, more := k.Next()
		if !more {
			return
		}
		k.Tell(s.do(d))
	}
}

// act keeps an act at the last deed.
func (s *tale) act(kind int, h uint64, deadline int) {
	s.acts = append(s.acts, api.Act{Kind: kind, Handle: h, Deadline: deadline, Step: s.steps})
}

// keep keeps in the limbo what a task has retired.
func (s *tale) keep(r api.Retired, waits bool) {
	if waits {
		s.limbo.Add(r.Ref, r.Epoch)
	}
}

// heightOf is the height that a number draws of so many levels, by chapter 5's sentence.
func heightOf(n uint64, levels int) int {
	if levels < 1 {
		return 0
	}
	tall := 1
	for ; n%2 == 1; n /= 2 {
		tall++
	}
	return min(tall, levels)
}

// clear tells the sentences of 32.1, of the handle's reference, and what is noted at its first step.
func (q ask) clear(s *tale) {
	h := q.call.Handle
	slot := int(h % half)
	s.ref = ref(h/half, slot)
	k := claim.Claim(q.plan, s.ref)
	s.all(claiming, k)
	if s.won = k.Won(); !s.won {
		s.act(4, h, 0)
		return
	}
	s.act(3, h, 0)
	s.at = reading
	s.key.Deadline = int(s.do(read(deadAt(q.plan, slot), s.ref)))
	s.key.Seq = s.do(read(seqAt(q.plan, slot), s.ref))
	f := finish.Finish(q.plan, s.ref, s.key)
	s.all(finishing, f)
	s.keep(f.Retired())
}

// insert tells the sentences of 31.1, and what is noted at its third step, and tells the handle.
func (q ask) insert(s *tale, index int) uint64 {
	p, tall := q.plan, heightOf(q.call.Draw, q.plan.Levels)
	m := mint.Mint(p, index, q.call.Deadline, tall)
	s.all(minting, m)
	r := m.Ref()
	h := r/half*half + r%half/2
	s.key = m.Key()
	k := link.Link(p, r, s.key, tall)
	s.all(linking, k)
	s.at = living
	s.do(put(stateAt(p, index), r/half*half+2, 0))
	s.act(1, h, q.call.Deadline)
	s.all(lifting, lift.Lift(p, r, s.key, tall, k.Preds(), k.Succs()))
	e := settle.Settle(p, r, s.key)
	s.all(settling, e)
	s.keep(e.Retired())
	s.all(waking, wake.Wake(p, q.call.Deadline))
	return h
}

// story tells the sentences of 33.1.
func (q ask) story(s *tale) {
	if q.call.Deadline < 0 || q.call.Deadline > maxTime {
		s.answer = api.Answer{Err: 2}
		return
	}
	if !isKnown(q.plan, q.call.Handle%half) {
		return
	}
	s.all(pinning, pin.Pin(q.plan, q.thread))
	var answer api.Answer
	k := pool.Pop(q.plan)
	s.all(popping, k)
	if i := k.Index(); i == 0 {
		s.act(5, 0, 0)
		answer.Err = 3
	} else if q.clear(s); !s.won {
		s.all(pushing, pool.Push(q.plan, i))
	} else {
		answer = yes(q.insert(s, i))
	}
	s.all(leaving, pin.Unpin(q.plan, q.thread))
	s.answer = answer
}

// pair is a resetter under way, and its tale, each with a limbo of its own, in which the same slots waited at the beginning.
type pair struct {
	ask
	fast  *Resetter
	limbo *limbo.Limbo
	slow  *tale
}

// pair makes the pair of what Reset is asked.
func (q ask) pair(l ...api.Retired) *pair { return q.with(waiting(l...)) }

// with makes the pair of what Reset is asked, with a limbo for the resetter.
func (q ask) with(w *limbo.Limbo) *pair {
	return &pair{q, Reset(q.plan, q.thread, q.call, w), w, tell(w.Copy(), q.story)}
}

// same asks whether a resetter stands where its tale does, in whatever it tells, and tells whether it goes on.
func (g *pair) same(t *testing.T) bool {
	t.Helper()
	k, s := g.fast, g.slow
	if got, more := k.Next(); got != s.now || more != s.more {
		t.Fatalf("%+v: %+v is asked for (%v) at %d, not %+v (%v)", g.ask, got, more, s.steps+1, s.now, s.more)
	}
	if l, want := g.limbo.All(), s.limbo.All(); !slices.Equal(l, want) {
		t.Fatalf("%+v: behind %d steps there wait %+v, not %+v", g.ask, s.steps, l, want)
	}
	if got := k.Answer(); !sameAnswer(got, s.answer) {
		t.Fatalf("%+v: behind %d steps %+v is answered, not %+v", g.ask, s.steps, got, s.answer)
	}
	if got := k.Acts(); !slices.Equal(got, s.acts) {
		t.Fatalf("%+v: behind %d steps %+v was done, not %+v", g.ask, s.steps, got, s.acts)
	}
	return s.more
}

// tell tells both what was found.
func (g *pair) tell(found uint64) {
	g.fast.Tell(found)
	g.slow.Tell(found)
}

// isTall tells whether the deed that is asked for is the one that finds how high the timer is that is stopped.
func (g *pair) isTall() bool {
	s := g.slow
	return s.at == finishing && s.now == read(tallAt(g.plan, indexOf(s.ref)), s.ref)
}

// plain is what is found by the deed that is asked for, where the slot 1 is free, the timer is live, of the key 20, 30 and the height 2, nobody else holds it, and no slot stands in a chain.
func (g *pair) plain() uint64 {
	d, at := g.slow.now, g.slow.at
	switch {
	case d.Kind == 3:
		return d.A
	case at == popping && d.At == 3 || at == finishing && d.Kind == 4:
		return 1
	case at == settling && d.Kind == 4 || g.isTall():
		return 2
	case at == reading && d.At == deadAt(g.plan, indexOf(d.By)):
		return 20
	case at == reading:
		return 30
	}
	return 0
}

// choices are words that may be found by the deed that is asked for: those that the chapters tell apart, and others.
func (g *pair) choices() []uint64 {
	d, at, dead, seq := g.slow.now, g.slow.at, g.slow.key.Deadline, g.slow.key.Seq
	switch {
	case d.Kind == 2:
		return []uint64{0, most}
	case at == claiming:
		return []uint64{d.A, d.A + 1, d.A - 1, d.A - 2, d.A + half, d.A - half, most}
	case d.Kind == 3:
		return []uint64{d.A, d.A + 1, d.B, d.A + 2, d.A + half}
	case d.Kind == 4 && at != finishing && at != settling:
		return []uint64{0, 7, most}
	case d.Kind == 4:
		return []uint64{0, 1, 2, 3, 1 + half, most}
	case at == pinning:
		return []uint64{0, 7, most}
	case (at == popping || at == pushing) && d.At == 3:
		return []uint64{0, 1, 5 * half, half + 3, lastGen*half + 64, 1 << 31, most}
	case at == reading:
		return []uint64{0, 1, 19, 20, 30, 1 << 63, most}
	case g.isTall():
		return []uint64{0, 1, 2, 3, 9, 1 << 63, most}
	case at == minting:
		return []uint64{0, 9 * half, 5*half + 4, 1<<63 + 1, lastGen*half + 4, most}
	case at == waking:
		return []uint64{0, 1, word(dead), word(dead) + 1, word(dead) + 2, most}
	}
	if slot := indexOf(d.By); slot != 0 {
		switch d.At {
		case deadAt(g.plan, slot):
			return []uint64{word(dead - 1), word(dead), word(dead + 1)}
		case seqAt(g.plan, slot):
			return []uint64{seq - 1, seq, seq + 1}
		}
	}
	return []uint64{0, 1, a, bm, old, oldm, 9 * half}
}

// luck is what is found by the deed that is asked for by chance, mostly such that it goes on.
func (g *pair) luck(r *rand.Rand) uint64 {
	some := g.choices()
	switch r.Intn(9) {
	case 0:
		return some[r.Intn(len(some))]
	case 1:
		if r.Intn(8) == 0 {
			return anyWord(r)
		}
	}
	return g.plain()
}

// anyWord is a reference of chance, with a mark or without, an edge, or any word.
func anyWord(r *rand.Rand) uint64 {
	switch r.Intn(4) {
	case 0:
		return r.Uint64()
	case 1:
		return words[r.Intn(len(words))]
	}
	return ref([]uint64{0, 1, uint64(r.Uint32()), lastGen}[r.Intn(4)], r.Intn(70)) + uint64(r.Intn(2))
}

// made makes the memory at the beginning of a right plan.
func made(t *testing.T, p api.Plan) *cells.Cells {
	t.Helper()
	c, err := blank.Make(p)
	if err != api.OK {
		t.Fatalf("no memory of %+v: %d", p, err)
	}
	return c
}

// memory makes a memory of words.
func memory(t *testing.T, l []uint64) *cells.Cells {
	t.Helper()
	c, err := cells.Of(l)
	if err != api.OK {
		t.Fatal(err)
	}
	return c
}

// stands asks whether a memory has just these words.
func stands(t *testing.T, c *cells.Cells, l []uint64) {
	t.Helper()
	if got := c.Words(); !slices.Equal(got, l) {
		t.Fatalf("%v stand, not %v", got, l)
	}
}

// begin starts a timer, alone, and tells its handle.
func begin(t *testing.T, c *cells.Cells, p api.Plan, thread, deadline int, draw uint64) uint64 {
	t.Helper()
	k := start.Start(p, thread, api.Call{Kind: api.CallStart, Deadline: deadline, Draw: draw}, nil)
	task.Play(c, k, 9000)
	if !k.Answer().Ok {
		t.Fatalf("%+v is answered by a start", k.Answer())
	}
	return k.Answer().Handle
}

// exampleSteps are the deeds by which the timer of the slot 1, of the deadline 9, gets the deadline 4, in the slot 2, and what is found by each.
var exampleSteps = []step{
	{read(0, 0), 1}, {put(4, 1, 0), 0},
	{read(3, 0), half + 2}, {read(20, 0), 0}, {swap(3, half+2, 2*half, 0), half + 2},
	{swap(8, 2, 3, 0), 2},
	{read(9, 2), 9}, {read(10, 2), 0},
	{read(11, 2), 1}, {read(14, 2), 0}, {swap(14, 0, 1, 2), 0}, {add(12, most, 2), 1},
	{read(7, 0), 2}, {read(14, 2), 1}, {swap(7, 2, 0, 0), 2}, {read(0, 0), 1},
	{read(15, 0), 0}, {put(15, 1, 0), 0}, {add(2, 1, 0), 1}, {put(16, 4, 4), 0}, {put(17, 1, 4), 0}, {put(18, 1, 4), 0}, {put(19, 2, 4), 0},
	{read(7, 0), 0}, {put(21, 0, 4), 0}, {swap(7, 0, 4, 0), 0},
	{put(15, 2, 0), 1},
	{add(19, most, 4), 2},
	{read(5, 0), 0},
	{put(4, 0, 0), 1},
}

// Behind how many of these deeds the act of the stop stands, the slot waits, and the act of the start stands.
const (
	exampleStops = 6
	exampleGone  = 16
	exampleLives = 27
)

// 33.1: the chapter's example, in numbers: with one timer, and no slot free, ErrFull is answered, and the timer stays.
func TestExample(t *testing.T) {
	c, l := made(t, flat), limbo.New()
	if h := begin(t, c, flat, 0, 5, 0); h != 1 {
		t.Fatalf("the handle is %d", h)
	}
	stand := []uint64{1, 0, 1, half, 0, 0, 0, 2, 2, 5, 0, 1, 1, 0, 0}
	stands(t, c, stand)
	k := Reset(flat, 0, api.Call{Kind: 3, Handle: 1, Deadline: 4}, l)
	answers(t, k, api.Answer{})
	if found := task.Play(c, k, 99); !slices.Equal(found, []uint64{1, 0, half, 1}) {
		t.Fatalf("%v was found", found)
	}
	ended(t, k)
	answers(t, k, api.Answer{Err: 3}, api.Act{Kind: 5, Step: 3})
	stands(t, c, stand)
	waits(t, l)
}

// 33.1: with a slot free, in numbers: the timer is taken at the sixth deed, and out of the chain, and its slot waits; another one, of another slot, number and handle, lives from the 27th on, and stands there with the new deadline.
func TestSlotIsFree(t *testing.T) {
	c, l := made(t, twice), limbo.New()
	if h := begin(t, c, twice, 0, 9, 0); h != 1 {
		t.Fatalf("the handle is %d", h)
	}
	stands(t, c, []uint64{1, 0, 1, half + 2, 0, 0, 0, 2, 2, 9, 0, 1, 1, 2, 0, 0, 0, 0, 0, 0, 0, 0})
	k := Reset(twice, 0, api.Call{Kind: 3, Handle: 1, Deadline: 4}, l)
	found := task.Play(c, k, 99)
	if want := []uint64{1, 0, half + 2, 0, half + 2, 2, 9, 0, 1, 0, 0, 1, 2, 1, 2, 1, 0, 0, 1, 0, 0, 0, 0, 0, 0, 0, 1, 2, 0, 1}; len(found) != 30 || !slices.Equal(found, want) {
		t.Fatalf("%v was found, not %v", found, want)
	}
	ended(t, k)
	answers(t, k, api.Answer{Ok: true, Handle: 2}, api.Act{Kind: 3, Handle: 1, Step: 6}, api.Act{Kind: 1, Handle: 2, Deadline: 4, Step: 27})
	stands(t, c, []uint64{1, 0, 2, 2 * half, 0, 0, 0, 4, 3, 9, 0, 1, 0, 2, 1, 2, 4, 1, 1, 1, 0, 0})
	waits(t, l, api.Retired{Ref: 2, Epoch: 1})
	// The old handle, and the new one: no slot is free by now.
	stand := c.Words()
	for h := range uint64(2) {
		k = Reset(twice, 0, api.Call{Handle: h + 1, Deadline: 6}, l)
		if found := task.Play(c, k, 99); !slices.Equal(found, []uint64{1, 0, 2 * half, 1}) {
			t.Fatalf("%v was found", found)
		}
		answers(t, k, api.Answer{Err: 3}, api.Act{Kind: 5, Step: 3})
		stands(t, c, stand)
	}
	waits(t, l, api.Retired{Ref: 2, Epoch: 1})
}

// 33.1: with a slot free, and no such timer, in numbers: the slot is given back.
func TestNoSuchTimer(t *testing.T) {
	c, l := made(t, twice), limbo.New()
	k := Reset(twice, 0, api.Call{Kind: 3, Handle: 2, Deadline: 4}, l)
	if found := task.Play(c, k, 99); !slices.Equal(found, []uint64{1, 0, 1, 2, 1, 0, half + 2, 2, half + 2, 1}) {
		t.Fatalf("%v was found", found)
	}
	ended(t, k)
	answers(t, k, api.Answer{}, api.Act{Kind: 4, Handle: 2, Step: 6})
	stands(t, c, []uint64{1, 0, 0, 2*half + 1, 0, 0, 0, 0, 0, 0, 0, 0, 0, 2, 0, 0, 0, 0, 0, 0, 0, 0})
	if idle := blank.Free(c, twice); !slices.Equal(idle, []int{1, 2}) {
		t.Fatalf("%v are free", idle)
	}
	waits(t, l)
}

// 33.1: the way with a slot free, deed by deed, and what is told ahead of each one, and behind it: the acts stand from the sixth and the 27th on, and the answer behind the 30th; the slot waits behind the 16th.
func TestDeedByDeed(t *testing.T) {
	l := limbo.New()
	acts := []api.Act{stopped(1, exampleStops), started(2, 4, exampleLives)}
	gone := []api.Retired{{Ref: 2, Epoch: 1}}
	k := Reset(twice, 0, api.Call{Handle: 1, Deadline: 4}, l)
	for n, s := range exampleSteps {
		switch {
		case n < exampleStops:
			answers(t, k, api.Answer{})
		case n < exampleLives:
			answers(t, k, api.Answer{}, acts[0])
		default:
			answers(t, k, api.Answer{}, acts...)
		}
		waits(t, l, gone[:min(n/exampleGone, 1)]...)
		goes(t, k, s)
	}
	answers(t, k, yes(2), acts...)
	ended(t, k)
	answers(t, k, yes(2), acts...)
	waits(t, l, gone...)
}

// 33.1: between both acts neither timer is live; ahead of the first one the old one is, and behind the second one the new one, and never both.
func TestNeitherIsLiveBetween(t *testing.T) {
	for n := range 31 {
		c := made(t, twice)
		begin(t, c, twice, 0, 9, 0)
		task.Play(c, Reset(twice, 0, api.Call{Handle: 1, Deadline: 4}, nil), n)
		if one, other := c.Load(8) == 2, c.Load(15) == 2; one != (n < exampleStops) || other != (n >= exampleLives) {
			t.Errorf("behind %d deeds the old one lives: %v, and the new one: %v", n, one, other)
		}
	}
}

// aheadSteps are the steps by which the thread 1 is pinned, and takes the slot 4, where somebody comes between twice.
var aheadSteps = []step{
	{read(0, 0), 7}, {put(5, 7, 0), 0},
	{read(3, 0), 4*half + 2}, {read(25, 0), 1}, {swap(3, 4*half+2, 5*half+1, 0), 5*half + 2},
	{read(3, 0), lastGen*half + 1}, {read(17, 0), 5*half + 3}, {swap(3, lastGen*half+1, 3, 0), 3},
	{read(3, 0), 6*half + 4}, {read(41, 0), 0}, {swap(3, 6*half+4, 7*half, 0), 6*half + 4},
}

// clearSteps are those by which the timer of the handle known, of the deadline 20, the number 30 and the height 2, is taken, and taken out, where somebody comes between at both levels.
var clearSteps = []step{
	{swap(28, 9*half+2, 9*half+3, 0), 9*half + 2},
	{read(29, old), 20}, {read(30, old), 30},
	{read(31, old), 2},
	{read(35, old), 0}, {swap(35, 0, 1, old), b}, {read(35, old), b}, {swap(35, b, bm, old), b},
	{read(34, old), a}, {swap(34, a, am, old), a},
	{add(32, most, old), 1},
	{read(11, 0), old}, {read(35, old), bm}, {swap(11, old, b, 0), a},
	{read(11, 0), a}, {read(19, a), old}, {read(13, a), 19}, {read(35, old), bm}, {swap(19, old, b, a), old}, {read(27, b), 0}, {read(21, b), 20}, {read(22, b), 31},
	{read(18, a), old}, {read(34, old), bm}, {swap(18, old, b, a), old}, {read(26, b), 0}, {read(21, b), 21},
	{read(0, 0), 12},
}

// insertSteps are those by which the timer of the handle fresh, of the deadline 40, the number 50 and the height 2, is brought in, in the slot 4, where somebody comes between at the lowest level, and somebody takes it then; and both threads sleep, the first one too long.
var insertSteps = []step{
	{read(36, 0), 3*half + 4}, {put(36, 3*half+1, 0), 3*half + 4}, {add(2, 1, 0), 50}, {put(37, 40, own), 3}, {put(38, 50, own), 4}, {put(39, 2, own), 5}, {put(40, 2, own), 6},
	{read(11, 0), 0}, {read(10, 0), a}, {read(18, a), 0}, {read(13, a), 40}, {read(14, a), 49},
	{put(42, 0, own), 7}, {put(43, 0, own), 8}, {swap(18, 0, own, a), b},
	{read(11, 0), a}, {read(19, a), 0}, {read(13, a), 39}, {read(18, a), b}, {read(26, b), 0}, {read(21, b), 40}, {read(22, b), 51},
	{put(42, b, own), 0}, {put(43, 0, own), 0}, {swap(18, b, own, a), b},
	{put(36, 3*half+2, 0), 3*half + 1},
	{read(43, own), 0}, {swap(19, 0, own, a), b},
	{read(11, 0), 0}, {read(10, 0), a}, {read(18, a), own}, {read(13, a), 39}, {read(42, own), b}, {read(37, own), 40}, {read(38, own), 50},
	{read(43, own), 0}, {swap(11, 0, own, 0), 0},
	{add(40, most, own), 1},
	{read(11, 0), own}, {read(43, own), 1}, {swap(11, own, 0, 0), own},
	{read(10, 0), a}, {read(18, a), own}, {read(13, a), 40}, {read(14, a), 49}, {read(42, own), bm}, {swap(18, own, b, a), own}, {read(26, b), 0}, {read(21, b), 40}, {read(22, b), 51},
	{read(0, 0), 13},
	{read(6, 0), 42}, {add(8, 1, 0), 3}, {read(7, 0), 41},
}

// leaveStep is the one by which the thread 1 leaves the epoch.
var leaveStep = step{put(5, 0, 0), 7}

// hard makes a resetter of which the steps are those of hardCourse; what it tells behind its end are hardAnswer and hardActs, and hardGone is what it retires.
func hard(l *limbo.Limbo) *Resetter {
	return Reset(small, 1, api.Call{Kind: 3, Handle: known, Deadline: 40, Draw: 1}, l)
}
func hardCourse() []step {
	return slices.Concat(aheadSteps, clearSteps, insertSteps, []step{leaveStep})
}

var (
	hardAnswer = api.Answer{Ok: true, Handle: fresh}
	hardActs   = []api.Act{{Kind: 3, Handle: known, Step: 12}, {Kind: 1, Handle: fresh, Deadline: 40, Step: 65}}
	hardGone   = []api.Retired{{Ref: old, Epoch: 12}, {Ref: own, Epoch: 13}}
)

// 33.1: all steps in numbers, with what somebody else does between them: each act stands from its deed on, and what both tasks retire comes into the limbo, among those that wait there, as soon as the epoch is told.
func TestResetInNumbers(t *testing.T) {
	x, y := api.Retired{Ref: 2, Epoch: 9}, api.Retired{Ref: 4, Epoch: 10}
	l := waiting(x, y)
	k := hard(l)
	for n, s := range hardCourse() {
		acts := 0
		for _, act := range hardActs {
			if n >= act.Step {
				acts++
			}
		}
		answers(t, k, api.Answer{}, hardActs[:acts]...)
		switch {
		case n < 39:
			waits(t, l, x, y)
		case n < 90:
			waits(t, l, x, hardGone[0], y)
		default:
			waits(t, l, x, hardGone[0], y, hardGone[1])
		}
		goes(t, k, s)
	}
	answers(t, k, hardAnswer, hardActs...)
	ended(t, k)
	answers(t, k, hardAnswer, hardActs...)
	waits(t, l, x, hardGone[0], y, hardGone[1])
}

// 33.1: the same of a timer that is no longer live, where somebody comes between twice while the slot is given back.
func TestMissInNumbers(t *testing.T) {
	l := waiting(api.Retired{Ref: 2, Epoch: 9})
	k := hard(l)
	goes(t, k, aheadSteps...)
	answers(t, k, api.Answer{})
	goes(t, k, step{clearSteps[0].asked, 9*half + 3})
	for _, s := range []step{
		{read(3, 0), 7*half + 2}, {put(41, 2, 0), 0}, {swap(3, 7*half+2, 8*half+4, 0), 8*half + 1},
		{read(3, 0), lastGen*half + 3}, {put(41, 3, 0), 2}, {swap(3, lastGen*half+3, 4, 0), 0},
		{read(3, 0), 9 * half}, {put(41, 0, 0), 3}, {swap(3, 9*half, 10*half+4, 0), 9 * half},
		leaveStep,
	} {
		answers(t, k, api.Answer{}, missed(known, 12))
		goes(t, k, s)
	}
	answers(t, k, api.Answer{}, missed(known, 12))
	ended(t, k)
	answers(t, k, api.Answer{}, missed(known, 12))
	waits(t, l, api.Retired{Ref: 2, Epoch: 9})
}

// 33.1: each deed in the names of api's, of layers 2, 4, 8 and 30.
func TestDeedsByName(t *testing.T) {
	p := api.Plan{Threads: 2, Slots: 3, Levels: 1}
	r, n := refer.Of(3, 2), refer.Of(5, 3)
	k := Reset(p, 1, api.Call{Kind: api.CallReset, Handle: handle.Of(r), Deadline: api.MaxTime, Draw: 1}, nil)
	goes(t, k,
		step{api.Deed{Kind: api.Load, At: api.AtEpoch}, 6},
		step{api.Deed{Kind: api.Store, At: plan.Pin(p, 1), A: 6}, 0},
		step{api.Deed{Kind: api.Load, At: api.AtFree}, 3},
		step{api.Deed{Kind: api.Load, At: plan.Succ(p, 3)}, 1},
		step{api.Deed{Kind: api.Swap, At: api.AtFree, A: 3, B: half + 1}, 3},
		step{api.Deed{Kind: api.Swap, At: plan.State(p, 2), A: state.Of(3, api.Live), B: state.Of(3, api.Taken)}, state.Of(3, api.Live)},
		step{api.Deed{Kind: api.Load, At: plan.Dead(p, 2), By: r}, 40},
		step{api.Deed{Kind: api.Load, At: plan.Seq(p, 2), By: r}, 76},
		step{api.Deed{Kind: api.Load, At: plan.Tall(p, 2), By: r}, 1},
		step{api.Deed{Kind: api.Load, At: plan.Next(p, 2, 0), By: r}, 0},
		step{api.Deed{Kind: api.Swap, At: plan.Next(p, 2, 0), A: 0, B: refer.Mark(0), By: r}, 0},
		step{api.Deed{Kind: api.Add, At: plan.Hold(p, 2), A: math.MaxUint64, By: r}, 1},
		step{api.Deed{Kind: api.Load, At: plan.Next(p, 0, 0)}, r},
		step{api.Deed{Kind: api.Load, At: plan.Next(p, 2, 0), By: r}, refer.Mark(0)},
		step{api.Deed{Kind: api.Swap, At: plan.Next(p, 0, 0), A: r, B: 0}, r},
		step{api.Deed{Kind: api.Load, At: api.AtEpoch}, 6},
		step{api.Deed{Kind: api.Load, At: plan.State(p, 3)}, state.Of(5, api.Free)},
		step{api.Deed{Kind: api.Store, At: plan.State(p, 3), A: state.Of(5, api.Making)}, 0},
		step{api.Deed{Kind: api.Add, At: api.AtSerial, A: 1}, 77},
		step{api.Deed{Kind: api.Store, At: plan.Dead(p, 3), A: api.MaxTime, By: n}, 0},
		step{api.Deed{Kind: api.Store, At: plan.Seq(p, 3), A: 77, By: n}, 0},
		step{api.Deed{Kind: api.Store, At: plan.Tall(p, 3), A: 1, By: n}, 0},
		step{api.Deed{Kind: api.Store, At: plan.Hold(p, 3), A: 2, By: n}, 0},
		step{api.Deed{Kind: api.Load, At: plan.Next(p, 0, 0)}, 0},
		step{api.Deed{Kind: api.Store, At: plan.Next(p, 3, 0), By: n}, 0},
		step{api.Deed{Kind: api.Swap, At: plan.Next(p, 0, 0), B: n}, 0},
		step{api.Deed{Kind: api.Store, At: plan.State(p, 3), A: state.Of(5, api.Live)}, 0},
		step{api.Deed{Kind: api.Add, At: plan.Hold(p, 3), A: math.MaxUint64, By: n}, 2},
		step{api.Deed{Kind: api.Load, At: plan.Sleep(p, 0)}, api.Never + 1},
		step{api.Deed{Kind: api.Add, At: plan.Sem(p, 0), A: 1}, 0},
		step{api.Deed{Kind: api.Load, At: plan.Sleep(p, 1)}, api.Never},
		step{api.Deed{Kind: api.Store, At: plan.Pin(p, 1)}, 6})
	answers(t, k, api.Answer{Ok: true, Handle: handle.Of(n)}, api.Act{Kind: api.ActStop, Handle: handle.Of(r), Step: 6}, api.Act{Kind: api.ActStart, Handle: handle.Of(n), Deadline: api.MaxTime, Step: 27})
	if api.CallReset != 3 || api.ActStart != 1 || api.ActStop != 3 || api.ActMiss != 4 || api.ActFull != 5 || api.ErrArg != 2 || api.ErrFull != 3 || api.MaxTime != maxTime {
		t.Error("the numbers of api's names are not the document's")
	}
}

// handlesOf are handles of a plan of all edges, those that may be known there first.
func handlesOf(p api.Plan) []uint64 {
	var l []uint64
	for _, may := range []bool{true, false} {
		for i, index := range indexes(p, may) {
			l = append(l, gens[i%len(gens)]*half+index, p.Gen%half*half+index)
		}
	}
	return l
}

// 33.1: a deadline that is none from 0 to MaxTime: it asks for nothing, and answers ErrArg at once, whatever the handle is, one that may not be known too, and whatever else it is asked, and whatever it is told.
func TestWrongDeadlines(t *testing.T) {
	one := api.Retired{Ref: 2, Epoch: 3}
	for _, p := range allPlans() {
		for n, dead := range wrongDeadlines {
			for i, h := range handlesOf(p) {
				for _, l := range []*limbo.Limbo{nil, waiting(one)} {
					k := Reset(p, threadsOf(p)[(n+i)%14], api.Call{Kind: i - 1, Deadline: dead, Draw: words[i%len(words)], Handle: h, Count: 1}, l)
					answers(t, k, api.Answer{Err: 2})
					ended(t, k)
					answers(t, k, api.Answer{Err: 2})
					if l != nil {
						waits(t, l, one)
					}
				}
			}
		}
	}
	for _, p := range rightPlans() {
		c := made(t, p)
		live := begin(t, c, p, 0, 5, 1)
		stand := c.Words()
		for _, dead := range wrongDeadlines {
			for _, h := range []uint64{live, live + half, 0, word(p.Slots) + 1} {
				k := Reset(p, 0, api.Call{Kind: 3, Handle: h, Deadline: dead}, limbo.New())
				if l := task.Play(c, k, 99); len(l) != 0 {
					t.Fatalf("%v was found", l)
				}
				stands(t, c, stand)
				answers(t, k, api.Answer{Err: api.ErrArg})
			}
		}
	}
}

// 33.1: a handle that may not be known in the plan, of any generation, and a deadline that is right: it asks for nothing, and answers Answer{} at once, with no act, whatever thread it is asked of, and whatever it is told.
func TestHandlesThatMayNotBeKnown(t *testing.T) {
	one := api.Retired{Ref: 2, Epoch: 3}
	for _, p := range allPlans() {
		for n, index := range indexes(p, false) {
			for i, gen := range gens {
				for _, l := range []*limbo.Limbo{nil, waiting(one)} {
					for _, thread := range []int{0, 1, threadsOf(p)[i]} {
						k := Reset(p, thread, calls(p, 0, gen*half+index, rightDeadlines[(n+i)%len(rightDeadlines)], words[i]).call, l)
						answers(t, k, api.Answer{})
						ended(t, k)
						answers(t, k, api.Answer{})
					}
					if l != nil {
						waits(t, l, one)
					}
				}
			}
		}
	}
	for _, p := range rightPlans() {
		c := made(t, p)
		begin(t, c, p, 0, 5, 1)
		stand := c.Words()
		for _, h := range []uint64{0, p.Gen * half, word(p.Slots) + 1, p.Gen*half + word(p.Slots) + 1, p.Gen*half + lastIndex, lastIndex + 1, p.Gen*half + lastIndex + 2, lastGen, most} {
			k := Reset(p, 0, api.Call{Kind: 3, Handle: h, Deadline: 7}, limbo.New())
			if l := task.Play(c, k, 99); len(l) != 0 {
				t.Fatalf("%v was found by a reset of %d", l, h)
			}
			stands(t, c, stand)
			answers(t, k, api.Answer{})
		}
	}
}

// 33.1: a handle that may be known, and any deadline that is right: the slot on top is taken first; then the state of the handle's slot, at its own place, is swapped, of its generation, and won or missed; a plan that is not right may have any slot up to 2^31 - 1. The slot that was taken may be that very one.
func TestHandlesThatMayBeKnown(t *testing.T) {
	for _, p := range allPlans() {
		for n, index := range indexes(p, true) {
			for i, gen := range gens {
				for j, top := range []uint64{1, 64, index, lastIndex, lastGen} {
					h, live, at, succ := gen*half+index, gen*half+2, stateAt(p, int(index)), succAt(p, int(top))
					thread := threadsOf(p)[(n+i+j)%14]
					for _, win := range []bool{true, false} {
						k := Reset(p, thread, calls(p, 0, h, rightDeadlines[(i+j)%len(rightDeadlines)], words[j]).call, nil)
						answers(t, k, api.Answer{})
						goes(t, k, step{read(0, 0), words[i]}, step{put(4+thread, words[i], 0), 3},
							step{read(3, 0), 8*half + top}, step{read(succ, 0), 5*half + 7}, step{swap(3, 8*half+top, 9*half+7, 0), 8*half + top})
						answers(t, k, api.Answer{})
						if !win {
							goes(t, k, step{swap(at, live, live+1, 0), live + half})
							answers(t, k, api.Answer{}, missed(h, 6))
							goes(t, k, step{read(3, 0), 11*half + 5}, step{put(succ, 5, 0), 7}, step{swap(3, 11*half+5, 12*half+top, 0), 11*half + 5})
							answers(t, k, api.Answer{}, missed(h, 6))
							goes(t, k, step{put(4+thread, 0, 0), words[i]})
							ended(t, k)
							answers(t, k, api.Answer{}, missed(h, 6))
							continue
						}
						goes(t, k, step{swap(at, live, live+1, 0), live})
						answers(t, k, api.Answer{}, stopped(h, 6))
						r := ref(gen, int(index))
						goes(t, k, step{read(at+1, r), 20}, step{read(at+2, r), 30}, step{read(at+3, r), 0}, step{add(at+4, most, r), 2})
						answers(t, k, api.Answer{}, stopped(h, 6))
						asks(t, k, read(stateAt(p, int(top)), 0))
					}
				}
			}
		}
	}
	if l := indexes(api.Plan{Slots: greatest}, true); !slices.Contains(l, lastIndex) || slices.Contains(l, lastIndex+1) {
		t.Errorf("%v may be known", l)
	}
}

// 33.1: a call's Kind and Count count for nothing.
func TestOtherFieldsOfACall(t *testing.T) {
	for i, w := range words {
		k := Reset(small, 1, api.Call{Kind: i - 1, Deadline: 40, Draw: 1, Handle: known, Count: -int(w)}, nil)
		goes(t, k, hardCourse()...)
		ended(t, k)
		answers(t, k, hardAnswer, hardActs...)
		k = Reset(small, 1, api.Call{Kind: i - 1, Deadline: 40, Handle: 9 * half, Count: int(w)}, nil)
		ended(t, k)
		answers(t, k, api.Answer{})
	}
}

// 33.1: each deadline from 0 to MaxTime is stored as it is, and stands in the act of the start, not in that of the stop.
func TestRightDeadlines(t *testing.T) {
	for _, p := range rightPlans() {
		if p.Slots == 1 {
			continue
		}
		for i, dead := range rightDeadlines {
			c := made(t, p)
			h := begin(t, c, p, 0, 5, 1)
			k := Reset(p, p.Threads-1, api.Call{Kind: 3, Handle: h, Deadline: dead, Draw: draws[i].n}, nil)
			task.Play(c, k, 999)
			if l := k.Acts(); len(l) != 2 || l[0] != stopped(h, 6) || l[1] != started(h+1, dead, l[1].Step) {
				t.Fatalf("%+v was done", l)
			}
			if got := k.Answer(); !sameAnswer(got, yes(h+1)) || c.Load(deadAt(p, 2)) != word(dead) {
				t.Fatalf("%+v is answered, and %d stands there", got, c.Load(deadAt(p, 2)))
			}
		}
	}
}

// 33.1: the height in numbers: as many levels as the call's Draw draws, and the plan has, are stored as the height, and as the timer's ways on; and it comes into the chains of as many, whatever the height of the old one was.
func TestHeights(t *testing.T) {
	for _, d := range draws {
		for levels := range 9 {
			p := api.Plan{Threads: 1, Slots: 2, Levels: levels}
			tall := min(d.tall, levels)
			g := calls(p, 0, 2, 5, d.n).pair()
			var ways, heads []int
			stored := uint64(99)
			for g.same(t) {
				now := g.slow.now
				for h := range levels {
					if now.Kind == 2 && now.At == nextAt(p, 1, h) {
						ways = append(ways, h)
					}
					if now.Kind == 3 && now.At == nextAt(p, 0, h) {
						heads = append(heads, h)
					}
				}
				if now.Kind == 2 && now.At == tallAt(p, 1) {
					stored = now.A
				}
				g.tell(g.plain())
			}
			want := []int{0, 1, 2, 3, 4, 5, 6, 7}[:tall]
			if stored != word(tall) || !slices.Equal(ways, want) || !slices.Equal(heads, want) {
				t.Fatalf("%d, of %d levels, draws %d; ways on of %v, heads of %v", d.n, levels, stored, ways, heads)
			}
		}
	}
}

// 33.1: no slot is free: whatever the half of the head beside it is, and whatever the handle is, the act ActFull stands at the third deed, and ErrFull is answered behind the fourth; the handle's slot is not asked for.
func TestFull(t *testing.T) {
	for _, p := range allPlans() {
		for n, index := range indexes(p, true) {
			for i, thread := range threadsOf(p) {
				for j, w := range []uint64{0, half, 5 * half, 1 << 63, lastGen * half} {
					l := waiting(api.Retired{Ref: 4, Epoch: 6})
					k := Reset(p, thread, calls(p, 0, gens[(i+j)%len(gens)]*half+index, rightDeadlines[(n+j)%len(rightDeadlines)], words[i]).call, l)
					answers(t, k, api.Answer{})
					goes(t, k, step{read(0, 0), words[i]})
					answers(t, k, api.Answer{})
					goes(t, k, step{put(4+thread, words[i], 0), 3})
					answers(t, k, api.Answer{})
					goes(t, k, step{read(3, 0), w})
					answers(t, k, api.Answer{}, full(3))
					goes(t, k, step{put(4+thread, 0, 0), words[i]})
					answers(t, k, api.Answer{Err: 3}, full(3))
					ended(t, k)
					answers(t, k, api.Answer{Err: 3}, full(3))
					waits(t, l, api.Retired{Ref: 4, Epoch: 6})
				}
			}
		}
	}
}

// 33.1: the last free slot is taken by somebody else, again and again, while it is about to be: the act ActFull stands at the load that finds none.
func TestFullInTheEnd(t *testing.T) {
	for _, tries := range []int{1, 2, 3, 50, 3000} {
		k := Reset(small, 0, api.Call{Handle: known, Deadline: 5}, nil)
		goes(t, k, step{read(0, 0), 7}, step{put(4, 7, 0), 0})
		for n := range tries {
			head := word(n)*half + word(n%3) + 1
			goes(t, k, step{read(3, 0), head}, step{read(17+8*(n%3), 0), 0}, step{swap(3, head, word(n+1)*half, 0), word(n+1) * half})
		}
		answers(t, k, api.Answer{})
		goes(t, k, step{read(3, 0), word(tries) * half})
		answers(t, k, api.Answer{}, full(3+3*tries))
		goes(t, k, step{put(4, 0, 0), 7})
		answers(t, k, api.Answer{Err: api.ErrFull}, full(3+3*tries))
		ended(t, k)
	}
}

// 33.1: whatever the state was, but live and of the handle's generation, each bit of it counting: it has missed, and gives the slot back, and answers Answer{} behind the thread's leaving.
func TestNotWon(t *testing.T) {
	for _, gen := range gens {
		h, live := gen*half+3, gen*half+2
		founds := []uint64{live - 2, live - 1, live + 1, live + 2, live - half, live + half, live + 1 - half, 0, most}
		for bit := range 64 {
			founds = append(founds, live^1<<bit)
		}
		for i, found := range append(founds, words...) {
			if found == live {
				continue
			}
			for _, l := range []*limbo.Limbo{nil, waiting(api.Retired{Ref: 4, Epoch: 6})} {
				was, top := l.All(), []int{4, 3, 1}[i%3]
				k := Reset(small, 0, api.Call{Kind: 3, Handle: h, Deadline: 5}, l)
				goes(t, k, step{read(0, 0), 7}, step{put(4, 7, 0), 0},
					step{read(3, 0), word(top)}, step{read(succAt(small, top), 0), 2}, step{swap(3, word(top), half+2, 0), word(top)})
				answers(t, k, api.Answer{})
				goes(t, k, step{swap(28, live, live+1, 0), found})
				answers(t, k, api.Answer{}, missed(h, 6))
				goes(t, k, step{read(3, 0), half + 2}, step{put(succAt(small, top), 2, 0), 2}, step{swap(3, half+2, 2*half+word(top), 0), half + 2})
				answers(t, k, api.Answer{}, missed(h, 6))
				goes(t, k, step{put(4, 0, 0), 7})
				answers(t, k, api.Answer{}, missed(h, 6))
				ended(t, k)
				answers(t, k, api.Answer{}, missed(h, 6))
				waits(t, l, was...)
			}
		}
	}
}

// 33.1: a timer that somebody else holds still: it is marked, and let go of, and nothing of it is retired; what follows is the same.
func TestHeldBySomebodyElse(t *testing.T) {
	for _, hold := range []uint64{0, 2, 3, half + 1, 1<<63 + 1, most} {
		l := waiting(api.Retired{Ref: 2, Epoch: 9})
		k := hard(l)
		goes(t, k, aheadSteps...)
		goes(t, k, clearSteps[:10]...)
		goes(t, k, step{add(32, most, old), hold})
		goes(t, k, insertSteps...)
		goes(t, k, leaveStep)
		ended(t, k)
		answers(t, k, hardAnswer, hardActs[0], started(fresh, 40, 48))
		waits(t, l, api.Retired{Ref: 2, Epoch: 9}, hardGone[1])
	}
}

// 33.1: each of the two comes into the limbo just if its Add found 1, as soon as the epoch is told, in that epoch, whatever waits there; no limbo keeps nothing.
func TestRetired(t *testing.T) {
	ahead := []api.Retired{{Ref: 2, Epoch: 0}, {Ref: 4, Epoch: 1}, {Ref: old, Epoch: 2}}
	holds := []uint64{0, 1, 2, half + 1, most}
	for _, epoch := range words {
		for _, one := range holds {
			for _, other := range holds {
				for i, l := range []*limbo.Limbo{nil, limbo.New(), waiting(ahead...), {}} {
					want := [][]api.Retired{nil, nil, ahead, nil}[i]
					wait := func(gone ...api.Retired) {
						t.Helper()
						if i > 0 {
							want = append(slices.Clip(want), gone...)
						}
						waits(t, l, waiting(want...).All()...)
					}
					k := Reset(small, 0, api.Call{Handle: known, Deadline: 40}, l)
					goes(t, k, step{read(0, 0), 7}, step{put(4, 7, 0), 0}, step{read(3, 0), 4}, step{read(41, 0), 0}, step{swap(3, 4, half, 0), 4})
					goes(t, k, clearSteps[:3]...)
					goes(t, k, step{read(31, old), 0})
					wait()
					goes(t, k, step{add(32, most, old), one})
					wait()
					if one == 1 {
						goes(t, k, step{read(11, 0), 0}, step{read(10, 0), 0})
						wait()
						goes(t, k, step{read(0, 0), epoch})
						wait(api.Retired{Ref: old, Epoch: epoch})
					}
					goes(t, k, insertSteps[:5]...)
					goes(t, k, step{put(39, 1, own), 0}, step{put(40, 2, own), 0},
						step{read(11, 0), 0}, step{read(10, 0), 0}, step{put(42, 0, own), 0}, step{swap(10, 0, own, 0), 0}, step{put(36, 3*half+2, 0), 0}, step{add(40, most, own), other})
					wait()
					if other == 1 {
						goes(t, k, step{read(11, 0), 0}, step{read(10, 0), 0})
						wait()
						goes(t, k, step{read(0, 0), epoch + 1})
						wait(api.Retired{Ref: own, Epoch: epoch + 1})
					}
					goes(t, k, step{read(6, 0), 41}, step{read(7, 0), 42}, step{add(9, 1, 0), 0}, step{put(4, 0, 0), 7})
					ended(t, k)
					wait()
				}
			}
		}
	}
}

// 33.1: the key that is sought is the old timer's as long as that one is taken out, and the new one's while that one is brought in, whichever is less.
func TestKeys(t *testing.T) {
	for _, was := range []int{least, -1, 0, 4, 5, 6, maxTime, greatest} {
		for _, dead := range []int{0, 4, 5, 6, maxTime} {
			for _, seqs := range [][2]uint64{{3, 4}, {4, 3}, {most, 0}} {
				k := Reset(twice, 0, api.Call{Handle: 1, Deadline: dead}, nil)
				goes(t, k, exampleSteps[:6]...)
				goes(t, k, step{read(9, 2), word(was)}, step{read(10, 2), seqs[0]}, step{read(11, 2), 0}, step{add(12, most, 2), 1})
				// Somebody stands in the chain with the old key, and then with the new one: neither is less, so each seek is at its end.
				goes(t, k, step{read(7, 0), a}, step{read(14, a), b}, step{read(9, a), word(was)}, step{read(10, a), seqs[0]})
				goes(t, k, exampleSteps[15:18]...)
				goes(t, k, step{add(2, 1, 0), seqs[1]}, step{put(16, word(dead), 4), 0}, step{put(17, seqs[1], 4), 0})
				goes(t, k, exampleSteps[21:23]...)
				goes(t, k, step{read(7, 0), a}, step{read(14, a), b}, step{read(9, a), word(dead)}, step{read(10, a), seqs[1]})
				goes(t, k, step{put(21, a, 4), 0}, step{swap(7, a, 4, 0), a})
				goes(t, k, exampleSteps[26:]...)
				ended(t, k)
				answers(t, k, yes(2), stopped(1, 6), started(2, dead, 29))
			}
		}
	}
}

// 33.1: whatever slot was on top: the timer is made in it, be it the old one's own, of the generation that its state says, and its handle is answered, and is the act's; of an index that has no reference both are 0, and the timer was started all the same.
func TestAnyTopSlot(t *testing.T) {
	for _, p := range allPlans() {
		if p.Threads > 99 || p.Levels > 99 || p.Slots < 1 {
			continue
		}
		for _, index := range []uint64{1, 2, 64, 65, 1 << 30, lastIndex, lastIndex + 1, lastGen} {
			for _, gen := range []uint64{0, 9, lastGen} {
				k := Reset(p, 0, api.Call{Handle: 1, Deadline: 5}, nil)
				h, at := gen*half+index, stateAt(p, 1)
				if index > lastIndex {
					h = 0
				}
				goes(t, k, step{read(0, 0), 7}, step{put(4, 7, 0), 0},
					step{read(3, 0), 3*half + index}, step{read(succAt(p, int(index)), 0), 0}, step{swap(3, 3*half+index, 4*half, 0), 3*half + index},
					step{swap(at, 2, 3, 0), 2}, step{read(at+1, 2), 20}, step{read(at+2, 2), 30}, step{read(at+3, 2), 0}, step{add(at+4, most, 2), 2},
					step{read(stateAt(p, int(index)), 0), gen * half})
				for range 99 {
					if _, more := k.Next(); !more {
						break
					}
					answers(t, k, api.Answer{}, k.Acts()...)
					k.Tell(0)
				}
				ended(t, k)
				acts := k.Acts()
				if len(acts) != 2 {
					t.Fatalf("%+v was done", acts)
				}
				answers(t, k, yes(h), stopped(1, 6), started(h, 5, acts[1].Step))
			}
		}
	}
}

// somePairs makes pairs of plans that are right, and of such as are not.
func somePairs() []func() *pair {
	var l []func() *pair
	for _, p := range []api.Plan{{Slots: 3}, flat, small, {Threads: 2, Slots: 1 << 40, Levels: 3}} {
		for i, h := range []uint64{1, known, lastGen*half + 2, 0} {
			dead, n := []int{20, 0, maxTime, 5}[i], []uint64{1, 0, most, 3}[i]
			l = append(l, func() *pair { return calls(p, 1, h, dead, n).pair(api.Retired{Ref: a, Epoch: 3}) })
		}
	}
	return append(l, func() *pair { return calls(small, -3, 4, 20, 0).pair() }, func() *pair { return calls(small, 0, 4, -1, 0).pair() })
}

// goOn lets a pair go on for at most so many steps, with what is found where nobody else is.
func (g *pair) goOn(t *testing.T, most int) {
	t.Helper()
	for n := 0; g.same(t) && n < most; n++ {
		g.tell(g.plain())
	}
	g.slow.end()
}

// 33.1: at each step of a way that nobody comes into: whatever is found at it, be it one of the words that the chapters tell apart, or any edge, it goes on as the chapters' sentences say.
func TestWhateverIsFound(t *testing.T) {
	for _, begin := range somePairs() {
		for n := range 60 {
			g := begin()
			for i := 0; g.same(t) && i < n; i++ {
				g.tell(g.plain())
			}
			all := append(g.choices(), words...)
			more := g.slow.more
			g.slow.end()
			if !more {
				break
			}
			for _, w := range all {
				g := begin()
				for range n {
					g.tell(g.plain())
				}
				g.same(t)
				g.tell(w)
				g.goOn(t, 60)
			}
		}
	}
}

// 33.1: the same of two steps that are at most five apart, with the words that the chapters tell apart.
func TestWhateverIsFoundTwice(t *testing.T) {
	all := somePairs()
	// Of each plan one of a handle that may be known there.
	for _, begin := range []func() *pair{all[0], all[4], all[9], all[14]} {
		for n := 0; n < 50; n++ {
			for m := n + 1; m < n+6; m++ {
				for i := range 7 {
					for j := range 7 {
						g := begin()
						for at := 0; g.same(t) && at < m+20; at++ {
							some := g.choices()
							switch {
							case at == n && i < len(some):
								g.tell(some[i])
							case at == m && j < len(some):
								g.tell(some[j])
							default:
								g.tell(g.plain())
							}
						}
						g.slow.end()
					}
				}
			}
		}
	}
}

// anyHandle is a handle of chance: mostly one that may be known in a plan.
func anyHandle(r *rand.Rand, p api.Plan) uint64 {
	l := indexes(p, r.Intn(5) > 0)
	if len(l) == 0 {
		return r.Uint64()
	}
	return gens[r.Intn(len(gens))]*half + l[r.Intn(len(l))]
}

// anyDeadline is a deadline of chance, or of the edges, mostly one that a call gives to a timer.
func anyDeadline(r *rand.Rand) int {
	switch r.Intn(10) {
	case 0:
		return int(r.Uint64())
	case 1:
		return wrongDeadlines[r.Intn(len(wrongDeadlines))]
	case 2:
		return rightDeadlines[r.Intn(len(rightDeadlines))]
	}
	return r.Intn(30)
}

// 33.1: words of chance, of which most are such as the chapters tell apart, of all plans, threads, handles, deadlines and draws.
func TestWordsOfChance(t *testing.T) {
	r := rand.New(rand.NewSource(33))
	done, under, none, lost, wrong, unknown, retired := 0, 0, 0, 0, 0, 0, 0
	for _, p := range allPlans() {
		for range 180 {
			g := calls(p, threadsOf(p)[r.Intn(14)], anyHandle(r, p), anyDeadline(r), draws[r.Intn(len(draws))].n).pair(api.Retired{Ref: anyWord(r), Epoch: anyWord(r)})
			for i := 0; g.same(t) && i < 250; i++ {
				g.tell(g.luck(r))
			}
			switch {
			case g.slow.more:
				under++
			case g.slow.answer.Err == 2:
				wrong++
			case g.slow.steps == 0:
				unknown++
			case g.slow.answer.Err == 3:
				none++
			case !g.slow.won:
				lost++
			default:
				done++
			}
			retired += g.limbo.Len() - 1
			g.slow.end()
		}
	}
	if done < 3000 || under < 500 || none < 300 || lost < 800 || wrong < 1000 || unknown < 1000 || retired < 2000 {
		t.Errorf("%d are done, %d under way; %d were full, %d missed, %d wrong, %d unknown; %d slots were retired", done, under, none, lost, wrong, unknown, retired)
	}
}

// 33.1: asking changes nothing, however often: at each step, and at the end.
func TestAskingChangesNothing(t *testing.T) {
	l := limbo.New()
	k := hard(l)
	for _, s := range hardCourse() {
		for range 50 {
			asks(t, k, s.asked)
			answers(t, k, api.Answer{}, k.Acts()...)
		}
		k.Tell(s.found)
	}
	for range 50 {
		ended(t, k)
		answers(t, k, hardAnswer, hardActs...)
	}
	waits(t, l, hardGone...)
}

// 33.1: a task is told ahead of being asked, and goes on all the same; so do its answers.
func TestTellAheadOfNext(t *testing.T) {
	course := hardCourse()
	for n := range course {
		k := hard(nil)
		for _, s := range course[:n] {
			k.Tell(s.found)
		}
		asks(t, k, course[n].asked)
	}
	l := limbo.New()
	k := hard(l)
	for _, s := range course {
		k.Tell(s.found)
	}
	answers(t, k, hardAnswer, hardActs...)
	waits(t, l, hardGone...)
}

// 33.1 and R7: a resetter that is nil, or that no call made, is done, stays so, does nothing, and tells nothing.
func TestTasksThatNoCallMade(t *testing.T) {
	var none *Resetter
	for _, k := range []*Resetter{none, {}, new(Resetter)} {
		answers(t, k, api.Answer{})
		ended(t, k)
		c := made(t, small)
		stand := c.Words()
		if l := task.Play(c, k, 9); len(l) != 0 {
			t.Errorf("%v was found", l)
		}
		stands(t, c, stand)
		answers(t, k, api.Answer{})
	}
}

// 33.1: each task goes its own way, of the same call and of others, with the same limbo and with another one.
func TestTasksAreApart(t *testing.T) {
	l, m := limbo.New(), limbo.New()
	x, y, z := hard(l), hard(l), hard(m)
	lost, wrong, unknown := Reset(small, 0, api.Call{Handle: 1}, l), Reset(small, 0, api.Call{Handle: 1, Deadline: -1}, l), Reset(small, 0, api.Call{Handle: 5}, l)
	goes(t, lost, step{read(0, 0), 7}, step{put(4, 7, 0), 0}, step{read(3, 0), 2}, step{read(25, 0), 0}, step{swap(3, 2, half, 0), 2}, step{swap(12, 2, 3, 0), 3})
	for _, s := range hardCourse() {
		asks(t, x, s.asked)
		asks(t, y, read(0, 0))
		asks(t, z, read(0, 0))
		answers(t, lost, api.Answer{}, missed(1, 6))
		answers(t, wrong, api.Answer{Err: 2})
		answers(t, unknown, api.Answer{})
		x.Tell(s.found)
	}
	answers(t, y, api.Answer{})
	waits(t, l, hardGone...)
	waits(t, m)
	goes(t, z, hardCourse()...)
	waits(t, m, hardGone...)
	goes(t, y, hardCourse()...)
	waits(t, l, hardGone[0], hardGone[0], hardGone[1], hardGone[1])
	asks(t, lost, read(3, 0))
	for _, k := range []*Resetter{x, y, z} {
		answers(t, k, hardAnswer, hardActs...)
		ended(t, k)
	}
}

// 33.1 and R4: the acts that were told are the asker's own.
func TestActsAreNew(t *testing.T) {
	k := hard(nil)
	goes(t, k, hardCourse()[:20]...)
	k.Acts()[0] = api.Act{}
	_ = append(k.Acts(), api.Act{Kind: 2})
	answers(t, k, api.Answer{}, hardActs[0])
	goes(t, k, hardCourse()[20:]...)
	k.Acts()[0].Step = 1
	k.Acts()[1].Kind = 2
	answers(t, k, hardAnswer, hardActs...)
}

// 33.1: it goes on as long as Swaps find other words, again and again, and keeps nothing of that; neither is the slot taken, the timer stopped, or one started anew, and the acts stay where they were.
func TestAgainAndAgain(t *testing.T) {
	k, l := Reset(twice, 0, api.Call{Handle: 1, Deadline: 4}, nil), exampleSteps
	goes(t, k, l[:2]...)
	for n := range uint64(3000) {
		goes(t, k, step{read(3, 0), n*half + 1}, step{read(13, 0), n % 2}, step{swap(3, n*half+1, (n+1)*half+n%2, 0), n})
	}
	goes(t, k, l[2:9]...)
	for n := range uint64(3000) {
		goes(t, k, step{read(14, 2), 2 * n}, step{swap(14, 2*n, 2*n+1, 2), 2*n + 2})
	}
	goes(t, k, l[9:12]...)
	for n := range uint64(3000) {
		goes(t, k, step{read(7, 0), 2}, step{read(14, 2), 1}, step{swap(7, 2, 0, 0), n*half + 1})
	}
	answers(t, k, api.Answer{}, stopped(1, 9006))
	goes(t, k, l[12:23]...)
	for n := range uint64(3000) {
		goes(t, k, step{read(7, 0), 0}, step{put(21, 0, 4), 0}, step{swap(7, 0, 4, 0), n + 1})
	}
	answers(t, k, api.Answer{}, stopped(1, 9006))
	goes(t, k, l[23:]...)
	ended(t, k)
	answers(t, k, yes(2), stopped(1, 9006), started(2, 4, 33027))
	// The same while the slot is given back.
	k = Reset(twice, 0, api.Call{Handle: 1, Deadline: 4}, nil)
	goes(t, k, l[:5]...)
	goes(t, k, step{swap(8, 2, 3, 0), 3})
	for n := range uint64(3000) {
		goes(t, k, step{read(3, 0), n * half}, step{put(20, 0, 0), n}, step{swap(3, n*half, (n+1)*half+2, 0), n*half + 1})
	}
	answers(t, k, api.Answer{}, missed(1, 6))
	goes(t, k, step{read(3, 0), 1}, step{put(20, 1, 0), 0}, step{swap(3, 1, half+2, 0), 1}, step{put(4, 0, 0), 1})
	ended(t, k)
	answers(t, k, api.Answer{}, missed(1, 6))
}

// 33.1: where there is no memory each deed finds 0: so no slot is free.
func TestNoMemory(t *testing.T) {
	for _, c := range []*cells.Cells{nil, new(cells.Cells)} {
		for _, p := range allPlans() {
			k := Reset(p, 0, api.Call{Handle: 1, Deadline: 5, Draw: 3}, nil)
			if p.Slots < 1 {
				answers(t, k, api.Answer{})
				ended(t, k)
				continue
			}
			if l := task.Play(c, k, 99); !slices.Equal(l, []uint64{0, 0, 0, 0}) {
				t.Fatalf("%v was found of no memory", l)
			}
			answers(t, k, api.Answer{Err: 3}, full(3))
		}
	}
}

// 33.1: of plans that are not right, and of memories of any words, the words that there are turn as the steps say, wherever the sums put them; a slot that is free may be the timer's own there.
func TestAnyMemory(t *testing.T) {
	r := rand.New(rand.NewSource(331))
	some := func() uint64 { return ref(uint64(r.Intn(2)), r.Intn(6)) + uint64(r.Intn(8)/7) }
	done, lost, none, under := 0, 0, 0, 0
	for _, p := range allPlans() {
		for range 60 {
			l := make([]uint64, r.Intn(250))
			for at := range l {
				l[at] = some()
				if r.Intn(9) == 0 {
					l[at] = words[r.Intn(len(words))]
				}
			}
			for slot := 1; slot < 7; slot++ {
				for at, w := range []uint64{uint64(r.Intn(2))*half + 2, uint64(r.Intn(9)), uint64(r.Intn(9)), uint64(r.Intn(5)), uint64(r.Intn(4)), uint64(r.Intn(7))} {
					if at += stateAt(p, slot); at >= 0 && at < len(l) && r.Intn(3) > 0 {
						l[at] = w
					}
				}
			}
			if len(l) > 3 && r.Intn(3) > 0 {
				l[3] = uint64(r.Intn(4))*half + uint64(r.Intn(7))
			}
			slot := 1 + r.Intn(min(max(p.Slots, 1), 6))
			g := calls(p, r.Intn(9)-1, uint64(r.Intn(2))*half+word(slot), r.Intn(20), uint64(r.Intn(16))).pair()
			c, other := memory(t, l), memory(t, l)
			found, want := task.Play(c, g.fast, 150), task.Play(other, g.slow, 150)
			if !slices.Equal(found, want) {
				t.Fatalf("%v was found, not %v", found, want)
			}
			stands(t, c, other.Words())
			switch {
			case g.same(t):
				under++
			case g.slow.won:
				done++
			case g.slow.answer.Err == 3:
				none++
			case g.slow.steps > 0:
				lost++
			}
			g.slow.end()
		}
	}
	if done < 300 || lost < 500 || none < 300 || under < 300 {
		t.Errorf("%d are done, %d missed, %d were full, %d are under way", done, lost, none, under)
	}
}

// member is a slot that is in chains: its reference, its key, its height, its status, how many hold it, whether it is in the chain of a level, and whether it is going out of it.
type member struct {
	ref     uint64
	key     api.Key
	tall    int
	status  uint64
	hold    uint64
	in, out [api.MaxLevels]bool
}

// less tells whether a key is less than another one, by chapter 3's sentence.
func less(x, y api.Key) bool {
	return x.Deadline < y.Deadline || x.Deadline == y.Deadline && x.Seq < y.Seq
}

// sorted sorts members by their keys, of which none is there twice.
func sorted(l []member) []member {
	slices.SortFunc(l, func(x, y member) int {
		if less(x.key, y.key) {
			return -1
		}
		return 1
	})
	return l
}

// lay lays the chains of sorted members on the words of a plan, each way on of which the slot is going out of the chain with a mark.
func lay(stand []uint64, p api.Plan, l []member) {
	for _, m := range l {
		slot := indexOf(m.ref)
		stand[deadAt(p, slot)], stand[seqAt(p, slot)], stand[tallAt(p, slot)] = word(m.key.Deadline), m.key.Seq, word(m.tall)
		stand[stateAt(p, slot)], stand[holdAt(p, slot)] = m.ref/half*half+m.status, m.hold
	}
	for h := range p.Levels {
		from, mark := 0, uint64(0)
		end := member{}
		end.in[h] = true
		for _, m := range append(slices.Clone(l), end) {
			if !m.in[h] {
				continue
			}
			stand[nextAt(p, from, h)] = m.ref + mark
			from, mark = indexOf(m.ref), 0
			if m.out[h] {
				mark = 1
			}
		}
	}
}

// setFree lets just these slots be free, the first one at the top.
func setFree(stand []uint64, p api.Plan, l ...int) {
	at := 3
	for _, slot := range l {
		stand[at] = stand[at]/half*half + word(slot)
		at = succAt(p, slot)
	}
	stand[at] = stand[at] / half * half
}

// walk tells those that stand in the chain of a level of a memory, from the head on, and which of them are there without a mark.
func walk(t *testing.T, stand []uint64, p api.Plan, level int) (all, staying []uint64) {
	t.Helper()
	w := stand[nextAt(p, 0, level)]
	for n := 0; w%half > 1; n++ {
		if n > p.Slots {
			t.Fatalf("the chain of the level %d does not end", level)
		}
		r := w - w%2
		w = stand[nextAt(p, indexOf(r), level)]
		all = append(all, r)
		if w%2 == 0 {
			staying = append(staying, r)
		}
	}
	return all, staying
}

// keyOf is the key of the timer in a slot of a memory.
func keyOf(stand []uint64, p api.Plan, slot int) api.Key {
	return api.Key{Deadline: int(stand[deadAt(p, slot)]), Seq: stand[seqAt(p, slot)]}
}

// rises asks whether all chains of a memory rise.
func rises(t *testing.T, stand []uint64, p api.Plan) {
	t.Helper()
	for h := range p.Levels {
		all, _ := walk(t, stand, p, h)
		for i := 1; i < len(all); i++ {
			if !less(keyOf(stand, p, indexOf(all[i-1])), keyOf(stand, p, indexOf(all[i]))) {
				t.Fatalf("the chain %v of the level %d does not rise at the place %d", all, h, i)
			}
		}
	}
}

// without asks whether a timer is in no chain of a memory.
func without(t *testing.T, stand []uint64, p api.Plan, r uint64) {
	t.Helper()
	for h := range p.Levels {
		if in, _ := walk(t, stand, p, h); slices.Contains(in, r) {
			t.Fatalf("%d is in the chain %v of the level %d", r, in, h)
		}
	}
}

// behind is a chain with r put in ahead of the first one that is not less than its key.
func behind(stand []uint64, p api.Plan, chain []uint64, r uint64, key api.Key) []uint64 {
	for i, other := range chain {
		if !less(keyOf(stand, p, indexOf(other)), key) {
			return slices.Insert(slices.Clone(chain), i, r)
		}
	}
	return append(slices.Clone(chain), r)
}

// alone resets a timer, alone, with a deadline that is right, where all is as chapter 18's sentence has it, and tells what is answered. Nothing but a thread's pin is changed, if the handle may not be known, or no slot is free, and nothing but the free slots' head, if its timer is not live. Else changed asks what has.
func alone(t *testing.T, c *cells.Cells, q ask) api.Answer {
	t.Helper()
	p, stand := q.plan, c.Words()
	g, other := q.pair(), memory(t, stand)
	if found, want := task.Play(c, g.fast, 9000), task.Play(other, g.slow, 9000); !slices.Equal(found, want) {
		t.Fatalf("%v was found, not %v", found, want)
	}
	if g.same(t) {
		t.Fatalf("%+v does not end", q)
	}
	k, h := g.fast, q.call.Handle
	stands(t, other, c.Words())
	want := slices.Clone(stand)
	if !isKnown(p, h%half) {
		stands(t, c, want)
		answers(t, k, api.Answer{})
		waits(t, g.limbo)
		return k.Answer()
	}
	want[pinAt(p, q.thread)] = 0
	top := int(stand[3] % half)
	if top == 0 {
		stands(t, c, want)
		answers(t, k, api.Answer{Err: 3}, full(3))
		waits(t, g.limbo)
		return k.Answer()
	}
	if stand[stateAt(p, int(h%half))] != h/half*half+2 {
		want[3] = (stand[3]/half+2)%half*half + word(top)
		want[succAt(p, top)] %= half
		stands(t, c, want)
		answers(t, k, api.Answer{}, missed(h, 6))
		waits(t, g.limbo)
		return k.Answer()
	}
	g.changed(t, stand, want, c.Words())
	return k.Answer()
}

// changed asks what has changed where there was a slot free, and the handle's timer was live: that one is taken, and going out of all chains below its height; if nobody else holds it, it is in none any more, and its slot waits. One more is live, and stands in the chains below its height where its key is; who sleeps too long is woken; and all others are there as they were.
func (g *pair) changed(t *testing.T, stand, want, now []uint64) {
	t.Helper()
	p, h, dead := g.plan, g.call.Handle, g.call.Deadline
	slot, top := int(h%half), int(stand[3]%half)
	gen, tall := stand[stateAt(p, top)]/half, heightOf(g.call.Draw, p.Levels)
	r, n, key := ref(h/half, slot), ref(gen, top), api.Key{Deadline: dead, Seq: stand[2]}
	acts := g.fast.Acts()
	if len(acts) != 2 || acts[0] != stopped(h, 6) || acts[1] != started(gen*half+word(top), dead, acts[1].Step) {
		t.Fatalf("%+v was done", acts)
	}
	answers(t, g.fast, yes(gen*half+word(top)), acts...)
	want[2]++
	want[3] = (stand[3]/half+1)%half*half + stand[succAt(p, top)]%half
	want[stateAt(p, slot)]++
	want[holdAt(p, slot)]--
	want[stateAt(p, top)], want[deadAt(p, top)], want[seqAt(p, top)] = gen*half+2, word(dead), key.Seq
	want[tallAt(p, top)], want[holdAt(p, top)] = word(tall), 1
	for thread := range p.Threads {
		if stand[sleepAt(p, thread)] > word(dead)+1 {
			want[semAt(p, thread)]++
		}
	}
	for level := range p.Levels {
		for n := range p.Slots + 1 {
			want[nextAt(p, n, level)] = now[nextAt(p, n, level)]
		}
		_, was := walk(t, stand, p, level)
		_, is := walk(t, now, p, level)
		was = slices.DeleteFunc(was, func(x uint64) bool { return x == r })
		if level < tall {
			was = behind(stand, p, was, n, key)
		}
		if !slices.Equal(was, is) {
			t.Fatalf("%v are in the chain of the level %d, not %v", is, level, was)
		}
		// The old one's own ways on lead where they led, those below its height with the mark.
		way := stand[nextAt(p, slot, level)]
		if level < int(stand[tallAt(p, slot)]) {
			way |= 1
		}
		if got := now[nextAt(p, slot, level)]; got != way {
			t.Fatalf("its way on of the level %d is %d, not %d", level, got, way)
		}
	}
	if !slices.Equal(now, want) {
		t.Fatalf("%v stand, not %v", now, want)
	}
	rises(t, now, p)
	if want[holdAt(p, slot)] != 0 {
		waits(t, g.limbo)
		return
	}
	without(t, now, p, r)
	waits(t, g.limbo, api.Retired{Ref: r, Epoch: stand[0]})
}

// 33.2: in numbers: whatever the slot's state is, of the handle's generation, of an older one and of a newer one; with no slot free, with one, and with all but the timer's own; and where it is itself the slot that is taken: just the live timer of that generation gets another deadline, and just if a slot is free.
func TestStatesAlone(t *testing.T) {
	won, lost, none := 0, 0, 0
	for _, p := range rightPlans() {
		for _, index := range []int{1, p.Slots} {
			var others []int
			for slot := range p.Slots {
				if slot+1 != index {
					others = append(others, slot+1)
				}
			}
			for _, gen := range gens {
				for i, other := range []uint64{gen - 1, gen, gen + 1, 0, 1, lastGen} {
					for status := range uint64(5) {
						for j, idle := range [][]int{nil, others[:min(1, len(others))], others, {index}} {
							live := status == 2
							if j == 3 && live {
								// A slot that is free has no timer.
								continue
							}
							stand := made(t, p).Words()
							stand[stateAt(p, index)], stand[holdAt(p, index)], stand[tallAt(p, index)] = gen%half*half+status, 1, 1
							stand[deadAt(p, index)], stand[seqAt(p, index)], stand[2] = 5, 7, 8
							stand[nextAt(p, 0, 0)] = ref(gen, index)
							setFree(stand, p, idle...)
							q := calls(p, p.Threads-1, other%half*half+word(index), 4+i%3, uint64(j))
							got := alone(t, memory(t, stand), q)
							if got.Ok != (live && other == gen && len(idle) > 0) || (got.Err == 3) != (len(idle) == 0) {
								t.Fatalf("a reset of %d in the state %d.%d, with %v free: %+v", other, gen, status, idle, got)
							}
							switch {
							case got.Ok:
								won++
							case got.Err == 3:
								none++
							default:
								lost++
							}
						}
					}
				}
			}
		}
	}
	if won < 1000 || lost < 10000 || none < 10000 {
		t.Errorf("%d got a deadline, %d did not, %d were full", won, lost, none)
	}
}

// triples are keys that rise, of all edges.
var triples = [][3]api.Key{
	{{Deadline: 4, Seq: 4}, {Deadline: 5, Seq: 3}, {Deadline: 6, Seq: 2}},
	{{Deadline: 0, Seq: 0}, {Deadline: 0, Seq: 1}, {Deadline: 0, Seq: most}},
	{{Deadline: least, Seq: 0}, {Deadline: least, Seq: most}, {Deadline: least + 1, Seq: 0}},
	{{Deadline: maxTime, Seq: 0}, {Deadline: maxTime, Seq: 1<<63 - 1}, {Deadline: maxTime, Seq: 1 << 63}},
	{{Deadline: 0, Seq: most}, {Deadline: maxTime, Seq: 0}, {Deadline: greatest, Seq: most}},
	{{Deadline: least, Seq: most}, {Deadline: -1, Seq: 7}, {Deadline: 0, Seq: 0}},
}

// newKeys are keys that the timer gets, of all edges: ahead of those of the triples, between them, and behind them.
var newKeys = []api.Key{{Deadline: 0, Seq: 5}, {Deadline: 4, Seq: 2}, {Deadline: 4, Seq: 9}, {Deadline: 5, Seq: 2}, {Deadline: 5, Seq: most}, {Deadline: 6, Seq: 1}, {Deadline: 6, Seq: 3}, {Deadline: 7, Seq: 0}, {Deadline: maxTime, Seq: 1}, {Deadline: maxTime, Seq: most}}

// 33.2: done alone, in all chains of two other slots and two levels that the chapters tell apart (in each chain, not in it, going out of it), in both orders, of a timer that stands first, between them, and last; of the heights 1, 2, more than there are levels, and 0; that somebody else holds, or nobody; and that is not live; with deadlines and numbers ahead of all, between them, behind them and just like one of theirs, of each height; of its generation, and of others.
func TestAloneInAllSmallChains(t *testing.T) {
	// Of two levels, from the lower one on: in the chain (1), going out of it (2), or not in it (0). Whoever stays in the higher one stays in the lower one too.
	ways := [][2]int{{0, 0}, {2, 0}, {0, 2}, {2, 2}, {1, 0}, {1, 2}, {1, 1}}
	// Its own: how high it is, in how many chains it is, how many hold it, and its status.
	owns := []struct {
		tall, in     int
		hold, status uint64
	}{{1, 1, 1, 2}, {2, 2, 1, 2}, {3, 2, 1, 2}, {greatest, 2, 1, 2}, {0, 0, 1, 2}, {least, 0, 1, 2}, {2, 1, 2, 2}, {2, 2, 2, 2}, {1, 1, 2, 2}, {2, 2, 1, 3}, {2, 1, 2, 1}, {1, 1, 2, 3}}
	for n := range 3 * 98 {
		way, place, top := n/2%49, n/98, n%4+1
		slots := slices.DeleteFunc([]int{1, 2, 3, 4}, func(slot int) bool { return slot == top })
		if n%2 == 1 {
			slices.Reverse(slots)
		}
		for i, one := range owns {
			l, keys := make([]member, 3), triples[(n+i)%len(triples)]
			some := slices.Insert([]int{way / 7, way % 7}, place, 0)
			for j := range l {
				l[j] = member{ref: ref(uint64(j)*lastGen/2, slots[j]), key: keys[j], tall: 2, status: 2, hold: 1}
				if j == place {
					l[j].tall, l[j].status, l[j].hold = one.tall, one.status, one.hold
					for h := range one.in {
						l[j].in[h] = true
					}
					continue
				}
				for h, state := range ways[some[j]] {
					l[j].in[h], l[j].out[h] = state != 0, state == 2
					if state == 2 {
						l[j].status = 3
					}
				}
			}
			for j, key := range newKeys {
				stand, r := made(t, small).Words(), l[place].ref
				lay(stand, small, l)
				setFree(stand, small, top)
				stand[0], stand[2], stand[4], stand[5], stand[7] = words[n%len(words)], key.Seq, words[i], 1, word(key.Deadline+j%4)
				// What stood in the free slot stands there still.
				stand[stateAt(small, top)], stand[nextAt(small, top, 0)], stand[nextAt(small, top, 1)] = words[n%len(words)]/half*half, am, words[n%len(words)]
				gen := r / half
				if j == 7 {
					gen = (gen + 1) % half
				}
				got := alone(t, memory(t, stand), calls(small, n%2, gen*half+r%half/2, key.Deadline, uint64(n+i+j)%2))
				if got.Ok != (one.status == 2 && j != 7) {
					t.Fatalf("a reset of %+v: %+v", one, got)
				}
			}
		}
	}
}

// anyMember is a member of chance, of a slot: live, and in all chains below its height; live, and just being brought in, so that two hold it; or taken, and going out of chains from above, in the mean in one of so many cases.
func anyMember(r *rand.Rand, p api.Plan, slot, outs int) member {
	tall := 1 + r.Intn(p.Levels)
	m := member{ref: ref([]uint64{0, 1, uint64(r.Uint32()), lastGen}[r.Intn(4)], slot), tall: tall, status: 2, hold: 1}
	switch {
	case r.Intn(outs) == 0:
		stay := r.Intn(tall + 1)
		m.status, m.hold = 3, uint64(r.Intn(3))
		for h := range tall {
			m.out[h] = h >= stay
			m.in[h] = h < stay || r.Intn(3) > 0
		}
		return m
	case r.Intn(3) == 0:
		m.hold = 2
		tall = 1 + r.Intn(tall)
	}
	for h := range tall {
		m.in[h] = true
	}
	return m
}

// newKey makes a key that none of members has.
func newKey(r *rand.Rand, l []member) api.Key {
	for {
		k := api.Key{Deadline: r.Intn(9) - 4, Seq: uint64(r.Intn(20))}
		if r.Intn(4) == 0 {
			k = api.Key{Deadline: append(rightDeadlines, wrongDeadlines...)[r.Intn(26)], Seq: words[r.Intn(len(words))]}
		}
		if !slices.ContainsFunc(l, func(m member) bool { return m.key == k }) {
			return k
		}
	}
}

// newDeadline makes a deadline that is right, which no slot of a memory has with the number of the next start.
func newDeadline(r *rand.Rand, stand []uint64, p api.Plan) int {
	for {
		dead := r.Intn(6)
		if r.Intn(4) == 0 {
			dead = rightDeadlines[r.Intn(len(rightDeadlines))]
		}
		used := false
		for slot := range p.Slots {
			used = used || keyOf(stand, p, slot+1) == api.Key{Deadline: dead, Seq: stand[2]}
		}
		if !used {
			return dead
		}
	}
}

// 33.2: done alone, in chains of chance of all right plans, with no other slot, with one and with many, with none going out, with some, and with all; with many slots free, with one alone, and with none; by any thread, while others sleep and are pinned; of any slot, of its generation, and of others, again and again.
func TestAloneInChainsOfChance(t *testing.T) {
	r := rand.New(rand.NewSource(333))
	won, lost, none := 0, 0, 0
	for _, p := range rightPlans() {
		for _, outs := range []int{1, 2, 5, 1 << 30} {
			for range 8 {
				stand := made(t, p).Words()
				stand[0], stand[2], stand[3] = words[r.Intn(len(words))], words[r.Intn(len(words))], words[r.Intn(len(words))]
				var l []member
				var idle []int
				count := r.Intn(min(p.Slots, 4))
				if r.Intn(3) == 0 {
					count = r.Intn(p.Slots + 1)
				}
				for i, n := range r.Perm(p.Slots) {
					if i < count {
						idle = append(idle, n+1)
						stand[stateAt(p, n+1)] = uint64(r.Uint32()) * half
						for h := range p.Levels {
							stand[nextAt(p, n+1, h)] = anyWord(r)
						}
						continue
					}
					m := anyMember(r, p, n+1, outs)
					m.key = newKey(r, l)
					l = append(l, m)
				}
				lay(stand, p, sorted(l))
				setFree(stand, p, idle...)
				for thread := range p.Threads {
					stand[pinAt(p, thread)] = words[r.Intn(4)]
					stand[semAt(p, thread)] = words[r.Intn(len(words))]
					if r.Intn(2) == 0 {
						stand[sleepAt(p, thread)] = uint64(r.Intn(9))
					}
				}
				c := memory(t, stand)
				for range min(p.Slots+1, 7) {
					slot := 1 + r.Intn(p.Slots)
					h := c.Load(stateAt(p, slot))/half*half + word(slot)
					switch r.Intn(10) {
					case 0:
						h += half
					case 1:
						h = anyHandle(r, p)
					}
					got := alone(t, c, calls(p, r.Intn(p.Threads), h, newDeadline(r, c.Words(), p), r.Uint64()%256))
					switch {
					case got.Ok:
						won++
					case got.Err == 3:
						none++
					default:
						lost++
					}
				}
			}
		}
	}
	if won < 500 || lost < 1000 || none < 1000 {
		t.Errorf("%d got a deadline, %d did not, %d were full", won, lost, none)
	}
}

// 33.2: from the beginning on timers are started, and get other deadlines, one behind the other, again and again, while each slot is handed back as soon as it waits: each reset tells another handle, which no timer had; the old ones tell nothing any more; as many are live as were ahead.
func TestOneBehindTheOther(t *testing.T) {
	r := rand.New(rand.NewSource(334))
	for _, p := range rightPlans() {
		c := made(t, p)
		c.Store(2, words[r.Intn(len(words))])
		var handles []uint64
		ever := map[uint64]bool{}
		for n := range (p.Slots + 1) / 2 {
			handles = append(handles, begin(t, c, p, n%p.Threads, r.Intn(6), r.Uint64()%512))
			ever[handles[n]] = true
		}
		for n := range 2*p.Slots + 20 {
			i := r.Intn(len(handles))
			was := handles[i]
			idle := len(blank.Free(c, p))
			got := alone(t, c, calls(p, n%p.Threads, was, newDeadline(r, c.Words(), p), r.Uint64()%512))
			if got.Ok != (idle > 0) {
				t.Fatalf("%+v is answered, with %d slots free", got, idle)
			}
			if !got.Ok {
				continue
			}
			if ever[got.Handle] {
				t.Fatalf("the handle %d is answered once more", got.Handle)
			}
			handles[i], ever[got.Handle] = got.Handle, true
			if idle > 1 && alone(t, c, calls(p, 0, was, 7, 0)).Ok {
				t.Fatalf("the old handle %d gets a deadline", was)
			}
			task.Play(c, give.Give(p, ref(was/half, int(was%half))), 99)
		}
		var in []uint64
		all, _ := walk(t, c.Words(), p, 0)
		for _, x := range all {
			in = append(in, x/half*half+x%half/2)
		}
		slices.Sort(in)
		slices.Sort(handles)
		if !slices.Equal(in, handles) {
			t.Fatalf("%v are in the lowest chain, not %v", in, handles)
		}
	}
}

// 33.2: in numbers: timers that stand first, in the midst and last get deadlines ahead of their old ones, the same, and behind them: where they stand then; of one deadline the one that got it later stands behind.
func TestPlacesInTheChain(t *testing.T) {
	p := api.Plan{Threads: 1, Slots: 12, Levels: 2}
	c, l := made(t, p), limbo.New()
	for n := range 5 {
		begin(t, c, p, 0, 10*n, uint64(n%2))
	}
	for i, row := range []struct {
		slot, dead int
		draw       uint64
		chain      []uint64 // the slots, from the head on
		high       []uint64 // the same of the higher level
	}{
		{1, 5, 0, []uint64{6, 2, 3, 4, 5}, []uint64{2, 4}},
		{5, 0, 1, []uint64{7, 6, 2, 3, 4}, []uint64{7, 2, 4}},
		{3, 20, 2, []uint64{7, 6, 2, 8, 4}, []uint64{7, 2, 4}},
		{2, 30, 3, []uint64{7, 6, 8, 4, 9}, []uint64{7, 4, 9}},
		{7, maxTime, 1, []uint64{6, 8, 4, 9, 10}, []uint64{4, 9, 10}},
		{10, 5, 1, []uint64{6, 11, 8, 4, 9}, []uint64{11, 4, 9}},
		{6, 5, 0, []uint64{11, 12, 8, 4, 9}, []uint64{11, 4, 9}},
	} {
		k := Reset(p, 0, api.Call{Kind: 3, Handle: word(row.slot), Deadline: row.dead, Draw: row.draw}, l)
		task.Play(c, k, 99)
		acts := k.Acts()
		answers(t, k, yes(word(6+i)), stopped(word(row.slot), 6), started(word(6+i), row.dead, acts[len(acts)-1].Step))
		for h, want := range [][]uint64{row.chain, row.high} {
			all, staying := walk(t, c.Words(), p, h)
			for i, r := range all {
				all[i] = r / 2
			}
			if !slices.Equal(all, want) || len(staying) != len(all) {
				t.Fatalf("%v are in the chain of the level %d, not %v", all, h, want)
			}
		}
		if c.Load(stateAt(p, row.slot)) != 3 || c.Load(stateAt(p, 6+i)) != 2 || c.Load(holdAt(p, row.slot)) != 0 || l.Len() != i+1 {
			t.Fatalf("the states are %d and %d, it is held by %d, and %v wait", c.Load(stateAt(p, row.slot)), c.Load(stateAt(p, 6+i)), c.Load(holdAt(p, row.slot)), l.All())
		}
	}
	waits(t, l, api.Retired{Ref: 2, Epoch: 1}, api.Retired{Ref: 10, Epoch: 1}, api.Retired{Ref: 6, Epoch: 1}, api.Retired{Ref: 4, Epoch: 1}, api.Retired{Ref: 14, Epoch: 1}, api.Retired{Ref: 20, Epoch: 1}, api.Retired{Ref: 12, Epoch: 1})
	stand := c.Words()
	for _, h := range []uint64{11, 12, 1, 7} {
		k := Reset(p, 0, api.Call{Kind: 3, Handle: h, Deadline: 3}, l)
		task.Play(c, k, 99)
		answers(t, k, api.Answer{Err: 3}, full(3))
		stands(t, c, stand)
	}
}

// 33.2: a slot of the last generation is used as any other one; so is one of which the free slots' head was turned as often as it counts; and the number of the next start goes round.
func TestLastGeneration(t *testing.T) {
	p := api.Plan{Threads: 1, Slots: 2, Levels: 1, Gen: lastGen}
	c := made(t, p)
	begin(t, c, p, 0, 5, 0)
	c.Store(2, most)
	c.Store(3, lastGen*half+2)
	if got := alone(t, c, calls(p, 0, lastGen*half+1, 5, 0)); !sameAnswer(got, yes(lastGen*half+2)) || c.Load(2) != 0 || c.Load(3) != 0 || c.Load(15) != lastGen*half+2 || c.Load(17) != most {
		t.Errorf("%+v is answered, and %v stand", got, c.Words())
	}
	c = made(t, p)
	c.Store(3, (lastGen-1)*half+1)
	if got := alone(t, c, calls(p, 0, lastGen*half+2, 5, 0)); !sameAnswer(got, api.Answer{}) || c.Load(3) != 1 {
		t.Errorf("%+v is answered, and %v stand", got, c.Words())
	}
}

// 33.1: in numbers: of those who sleep just those are woken who do so till a later deadline than the new one, whatever the old one was; and nobody, if no timer gets one.
func TestSleepers(t *testing.T) {
	p := api.Plan{Threads: 8, Slots: 2, Levels: 1}
	for _, row := range []struct {
		dead         int
		sleep, woken []uint64
	}{
		{0, []uint64{0, 1, 2, 3, 9, maxTime + 1, maxTime + 2, most}, []uint64{0, 0, 1, 1, 1, 1, 1, 1}},
		{5, []uint64{0, 1, 5, 6, 7, 8, maxTime + 2, 1 << 63}, []uint64{0, 0, 0, 0, 1, 1, 1, 1}},
		{maxTime, []uint64{0, 1, 6, maxTime, maxTime + 1, maxTime + 2, maxTime + 3, most}, []uint64{0, 0, 0, 0, 0, 1, 1, 1}},
	} {
		for i, was := range []int{3, 6, 7, 8} {
			c := made(t, p)
			h, want := begin(t, c, p, 0, was, 0), row.woken
			if i > 1 {
				want = make([]uint64, 8)
			}
			if i == 2 {
				h += half
			} else if i == 3 {
				begin(t, c, p, 0, was, 0)
			}
			for thread, w := range row.sleep {
				c.Store(12+thread, w)
			}
			alone(t, c, calls(p, 7, h, row.dead, 0))
			var woken []uint64
			for thread := range 8 {
				woken = append(woken, c.Load(20+thread))
			}
			if !slices.Equal(woken, want) {
				t.Fatalf("%v were woken by %d, not %v", woken, row.dead, want)
			}
		}
	}
}

// caller is a call's task.
type caller interface {
	task.Task
	Answer() api.Answer
	Acts() []api.Act
}

// turn is a thread's call under way: a reset, which is held against its tale, another call, or a task that is none.
type turn struct {
	task task.Task
	call caller
	pair *pair
}

// turn makes the turn of a reset, with a limbo.
func (q ask) turn(l *limbo.Limbo) *turn {
	g := q.with(l)
	return &turn{g.fast, g.fast, g}
}

// turnOf makes the turn of another call.
func turnOf(k caller) *turn { return &turn{k, k, nil} }

// crowd is a memory on which several go on by turns, and what their acts tell of its timers.
type crowd struct {
	plan  api.Plan
	cells *cells.Cells
	live  map[uint64]int // the deadlines of live timers, by their handles
	ever  []uint64       // all handles that timers had, in order
	acts  [6]int         // how often each act was done by resets
}

// gather makes the crowd of a memory in which timers live.
func gather(p api.Plan, c *cells.Cells, live map[uint64]int) *crowd {
	w := &crowd{plan: p, cells: c, live: map[uint64]int{}}
	for h, dead := range live {
		w.live[h] = dead
		w.ever = append(w.ever, h)
	}
	slices.Sort(w.ever)
	return w
}

// goOn lets a turn go on by one deed, and tells whether there was one. A call that is done answers what its acts tell.
func (w *crowd) goOn(t *testing.T, one *turn) bool {
	t.Helper()
	d, more := one.task.Next()
	if !more {
		return false
	}
	acts := 0
	if one.call != nil {
		acts = len(one.call.Acts())
	}
	found := task.Play(w.cells, one.task, 1)[0]
	if one.call == nil {
		return true
	}
	for _, act := range one.call.Acts()[acts:] {
		w.act(t, d, found, act)
		if one.pair != nil {
			w.acts[act.Kind]++
		}
	}
	if one.pair != nil {
		one.pair.slow.Tell(found)
		if !one.pair.same(t) {
			one.pair.slow.end()
			fits(t, one.pair)
		}
	}
	return true
}

// play lets a turn go on by at most so many deeds.
func (w *crowd) play(t *testing.T, one *turn, most int) {
	t.Helper()
	for n := 0; n < most && w.goOn(t, one); n++ {
	}
}

// act asks whether an act is one that may be done at a deed: a timer begins to live, of a handle that none had, where its state is stored; it is stopped, if it is live, and missed, if it is not, where that is swapped; no slot is free where the head says so.
func (w *crowd) act(t *testing.T, d api.Deed, found uint64, act api.Act) {
	t.Helper()
	h := act.Handle
	at, live := stateAt(w.plan, int(h%half)), h/half*half+2
	dead, lives := w.live[h]
	right := false
	switch act.Kind {
	case 1:
		right = d == put(at, live, 0) && !slices.Contains(w.ever, h)
		w.live[h] = act.Deadline
		w.ever = append(w.ever, h)
	case 3:
		right = d == swap(at, live, live+1, 0) && lives
		delete(w.live, h)
	case 4:
		right = d == swap(at, live, live+1, 0) && !lives
	case 5:
		right = d == read(3, 0) && found%half == 0
	}
	if !right {
		t.Fatalf("%+v was done at %+v, by which %d was found, while it lives: %v, with %d", act, d, found, lives, dead)
	}
}

// fits asks whether what a reset answers that is done is what its acts tell.
func fits(t *testing.T, g *pair) {
	t.Helper()
	acts, want := g.fast.Acts(), api.Answer{}
	switch {
	case len(acts) == 2 && acts[0].Kind == 3 && acts[1].Kind == 1:
		want = yes(acts[1].Handle)
	case len(acts) == 1 && acts[0].Kind == 5:
		want.Err = 3
	case len(acts) == 1 && acts[0].Kind == 4:
	default:
		t.Fatalf("%+v was done", acts)
	}
	answers(t, g.fast, want, acts...)
}

// rest asks whether, when all have ended, just the timers live of which the acts tell it, with their deadlines, and are in the chains below their heights, without a mark, each held by one; and each other slot is free, or gone, or waits once in one of the limbos.
func (w *crowd) rest(t *testing.T, limbos ...*limbo.Limbo) {
	t.Helper()
	p, stand := w.plan, w.cells.Words()
	idle, waiting := blank.Free(w.cells, p), map[uint64]int{}
	for _, l := range limbos {
		for _, one := range l.All() {
			waiting[one.Ref]++
		}
	}
	want, count := make([][]uint64, p.Levels), 0
	for n := range p.Slots {
		slot, s := n+1, stand[stateAt(p, n+1)]
		r := ref(s/half, slot)
		dead, lives := w.live[s/half*half+word(slot)]
		right := false
		switch s % half {
		case 0:
			right = !lives && slices.Contains(idle, slot) && waiting[r] == 0
			count++
		case 2:
			right = lives && stand[deadAt(p, slot)] == word(dead) && stand[holdAt(p, slot)] == 1 && waiting[r] == 0
			for level := range int(stand[tallAt(p, slot)]) {
				want[level] = append(want[level], r)
			}
		case 3:
			right = !lives && stand[holdAt(p, slot)] == 0 && waiting[r] == 1
		case 4:
			right = !lives && s/half == lastGen && waiting[r] == 0
		}
		if !right {
			t.Fatalf("the state of the slot %d is %d, it is held by %d, and waits %d times; of those that live it is %v", slot, s, stand[holdAt(p, slot)], waiting[r], lives)
		}
	}
	if count != len(idle) {
		t.Fatalf("%v are free, which are not %d", idle, count)
	}
	for level := range want {
		all, staying := walk(t, stand, p, level)
		slices.Sort(all)
		slices.Sort(want[level])
		if !slices.Equal(all, want[level]) || len(staying) != len(all) {
			t.Fatalf("%v are in the chain of the level %d, not %v", all, level, want[level])
		}
	}
	rises(t, stand, p)
}

// 33.1: a timer gets another deadline while it is started: behind each of the starter's steps, and going on behind each of the resetter's own. It is missed, if it does not live yet; else it is stopped, retired by who lets go last, and another one lives.
func TestWhileItIsStarted(t *testing.T) {
	p := api.Plan{Threads: 2, Slots: 5, Levels: 2}
	stand, live := made(t, p), map[uint64]int{}
	for n := range 2 {
		live[begin(t, stand, p, 0, 4+2*n, 1)] = 4 + 2*n
	}
	var acts [6]int
	byStarter := 0
	for n := range 45 {
		for m := range 75 {
			w, l, own := gather(p, memory(t, stand.Words()), live), limbo.New(), limbo.New()
			s := turnOf(start.Start(p, 0, api.Call{Deadline: 5, Draw: 1}, l))
			k := calls(p, 1, 3, 3+n%4, uint64(m%2)).turn(own)
			w.play(t, s, n)
			w.play(t, k, m)
			// Both may have stood still since long, so the epoch may have gone on.
			w.cells.Store(0, 50)
			w.play(t, s, 99)
			w.play(t, k, 199)
			ended(t, k.task)
			w.rest(t, l, own)
			byStarter += l.Len()
			for kind, count := range w.acts {
				acts[kind] += count
			}
		}
	}
	if acts[1] < 500 || acts[1] != acts[3] || acts[4] < 500 || acts[5] != 0 || byStarter < 20 {
		t.Errorf("the acts were done %v times, and %d were retired by their starters", acts, byStarter)
	}
}

// 33.1: somebody stops the new timer while it is brought in: behind each of the resetter's steps, and going on behind each of the stopper's own: what the resetter answers is the same; it is retired once, by who lets go last, into the limbo that was handed in.
func TestStoppedWhileItIsReset(t *testing.T) {
	p := api.Plan{Threads: 2, Slots: 3, Levels: 2}
	stand, live := made(t, p), map[uint64]int{}
	for n := range 2 {
		live[begin(t, stand, p, 0, 4+2*n, 1)] = 4 + 2*n
	}
	byResetter, byStopper := 0, 0
	for n := range 75 {
		for m := range 45 {
			w, l, own := gather(p, memory(t, stand.Words()), live), limbo.New(), limbo.New()
			k := calls(p, 0, 1, 7, 1).turn(own)
			s := turnOf(stop.Stop(p, 1, api.Call{Handle: 3}, l))
			w.play(t, k, n)
			w.play(t, s, m)
			// Both may have stood still since long, so the epoch may have gone on.
			w.cells.Store(0, 50)
			w.play(t, k, 199)
			w.play(t, s, 99)
			ended(t, k.task)
			w.rest(t, l, own)
			if got := k.call.Answer(); !sameAnswer(got, yes(3)) || own.Len()+l.Len() != 1+len(live)-len(w.live) {
				t.Fatalf("%+v is answered, and %v and %v wait, at %d and %d", got, own.All(), l.All(), n, m)
			}
			byResetter += own.Len() - 1
			byStopper += l.Len()
		}
	}
	if byResetter < 100 || byStopper < 100 {
		t.Errorf("%d were retired by the resetter, %d by the stopper", byResetter, byStopper)
	}
}

// 33.1: two get one timer another deadline, or two timers, or one is stopped meanwhile by the other, in all orders of their first twelve steps, with one slot free or two: of one timer just one has it, the one that comes first; the other one misses it, and gives its slot back, or finds none.
func TestTwoInAllOrders(t *testing.T) {
	p := api.Plan{Threads: 2, Slots: 4, Levels: 1}
	for _, row := range []struct {
		timers int // ahead of both
		other  uint64
		stop   bool
		acts   [6]int // by both
	}{
		{2, 1, false, [6]int{1: 1, 3: 1, 4: 1}},
		{3, 1, false, [6]int{1: 1, 3: 1, 5: 1}},
		{2, 2, false, [6]int{1: 2, 3: 2}},
		{3, 2, false, [6]int{1: 1, 3: 1, 5: 1}},
		{3, 1, true, [6]int{}},
	} {
		stand, live := made(t, p), map[uint64]int{}
		for n := range row.timers {
			live[begin(t, stand, p, 0, 2*n, 0)] = 2 * n
		}
		first := [2]int{}
		for n := range 4096 {
			w, limbos := gather(p, memory(t, stand.Words()), live), []*limbo.Limbo{limbo.New(), limbo.New()}
			both := []*turn{calls(p, 0, 1, 3, 0).turn(limbos[0]), calls(p, 1, row.other, 3, 0).turn(limbos[1])}
			if row.stop {
				both[1] = turnOf(stop.Stop(p, 1, api.Call{Handle: 1}, limbos[1]))
			}
			for at := range 12 {
				w.goOn(t, both[n>>at%2])
			}
			w.play(t, both[0], 199)
			w.play(t, both[1], 199)
			w.rest(t, limbos...)
			one, two := both[0].call.Answer(), both[1].call.Answer()
			switch {
			case row.stop && one.Ok == two.Ok, !row.stop && w.acts != row.acts, row.other == 1 && one.Ok == two.Ok:
				t.Fatalf("%+v and %+v are answered, and %v acts done, in the order %d of %+v", one, two, w.acts, n, row)
			case one.Ok:
				first[0]++
			default:
				first[1]++
			}
		}
		if row.acts[1] < 2 && (first[0] < 200 || first[1] < 200) {
			t.Errorf("%v of the two came first, of %+v", first, row)
		}
	}
}

// tidy makes a task that lets the epoch go on, and hands back what is ripe then.
func tidy(p api.Plan, l *limbo.Limbo) task.Task {
	f := &task.Flow{}
	f.To(epoch.Advance(p), func() { f.To(collect.Collect(p, l), nil) })
	return f
}

// handleOf is one of the handles that timers had by chance, mostly one that lives; or one that no timer has.
func (w *crowd) handleOf(r *rand.Rand) uint64 {
	if len(w.ever) == 0 || r.Intn(8) == 0 {
		return anyHandle(r, w.plan)
	}
	for range 5 {
		h := w.ever[len(w.ever)-1-r.Intn(min(len(w.ever), 2*w.plan.Slots))]
		if _, lives := w.live[h]; lives {
			return h
		}
	}
	return w.ever[r.Intn(len(w.ever))]
}

// anyTurn makes a call of chance, of a thread.
func (w *crowd) anyTurn(r *rand.Rand, thread int, l *limbo.Limbo) *turn {
	p := w.plan
	switch r.Intn(10) {
	case 0, 1:
		return turnOf(start.Start(p, thread, api.Call{Deadline: r.Intn(6), Draw: r.Uint64() % 64}, l))
	case 2:
		return turnOf(stop.Stop(p, thread, api.Call{Handle: w.handleOf(r)}, l))
	case 3, 4, 5:
		return &turn{task: tidy(p, l)}
	}
	return calls(p, thread, w.handleOf(r), r.Intn(6), r.Uint64()%64).turn(l)
}

// 33.1 and 33.2: calls of all threads by turns, which start timers, stop them, and give them other deadlines, old handles and handles that no timer has among them, while slots are handed back, and used again; each reset is held against its tale, and each act against what lives. In the end just those timers live of which the acts tell it, and three rounds later all other slots are free, but those that are gone for good.
func TestInTurns(t *testing.T) {
	r := rand.New(rand.NewSource(335))
	var acts [6]int
	byResetter := 0
	for _, p := range rightPlans() {
		for range 3 {
			w, now, limbos := gather(p, made(t, p), nil), make([]*turn, p.Threads), make([]*limbo.Limbo, p.Threads)
			for thread := range limbos {
				limbos[thread] = limbo.New()
			}
			still, till := 0, 0
			for n, left := 0, 4*p.Slots+30; ; n++ {
				thread := r.Intn(p.Threads)
				if thread == still && n < till && p.Threads > 1 {
					continue
				}
				one := now[thread]
				if one == nil {
					if left == 0 && !slices.ContainsFunc(now, func(one *turn) bool { return one != nil }) {
						break
					}
					if left > 0 {
						left--
						now[thread] = w.anyTurn(r, thread, limbos[thread])
					}
					continue
				}
				ever, wait := len(w.ever), limbos[thread].Len()
				lived := one.pair != nil && len(one.pair.fast.Acts()) == 2
				if !w.goOn(t, one) {
					now[thread] = nil
				}
				if lived && limbos[thread].Len() > wait {
					byResetter++
				}
				// Some stand still as soon as their timers live, so that others may take them ahead of their letting go.
				if len(w.ever) > ever && r.Intn(2) == 0 {
					still, till = thread, n+60*p.Threads
				}
			}
			w.rest(t, limbos...)
			for range 3 {
				for _, l := range limbos {
					task.Play(w.cells, tidy(p, l), 9000)
				}
			}
			w.rest(t)
			for kind, count := range w.acts {
				acts[kind] += count
			}
		}
	}
	if acts[1] < 1000 || acts[1] != acts[3] || acts[4] < 500 || acts[5] < 500 || byResetter < 30 {
		t.Errorf("the acts were done %v times, and %d were retired by their own resetters", acts, byResetter)
	}
}
