package stop

import (
	"fmt"
	"iter"
	"math"
	"math/rand"
	"slices"
	"testing"

	"sundial/api"
	"sundial/blank"
	"sundial/cells"
	"sundial/claim"
	"sundial/finish"
	"sundial/handle"
	"sundial/limbo"
	"sundial/pin"
	"sundial/plan"
	"sundial/refer"
	"sundial/start"
	"sundial/state"
	"sundial/task"
)

// half is how often a high half goes into a word: a word is its high half times half, and its low half.
const half = 4294967296

// lastGen and lastIndex are the greatest generation and index that a reference has; maxTime is 2^60; least and greatest are the least and the greatest int, and most is the greatest word.
const (
	lastGen   = 4294967295
	lastIndex = 2147483647
	maxTime   = 1152921504606846976
	least     = -9223372036854775808
	greatest  = 9223372036854775807
	most      = 18446744073709551615
)

// words are the edges of a word; from 1<<63 on they are ints below 0.
var words = []uint64{0, 1, 2, 3, 4, 5, 7, 19, 20, 21, 22, 29, 30, 31, 64, 1<<31 - 1, 1 << 31, half - 1, half, half + 1, half + 2, half + 3, 1 << 60, 1<<63 - 1, 1 << 63, 1<<63 + 1, lastGen * half, lastGen*half + 1, lastGen*half + 2, most - 1, most}

// deadlines and seqs are the edges of a key's parts.
var (
	deadlines = []int{least, least + 1, -maxTime, -2, -1, 0, 1, 2, 5, 1 << 32, maxTime - 1, maxTime, maxTime + 1, greatest - 1, greatest}
	seqs      = []uint64{0, 1, 2, 7, half - 1, half, 1<<63 - 1, 1 << 63, 1<<63 + 1, most - 1, most}
)

// gens are the edges of a generation.
var gens = []uint64{0, 1, 2, 9, 1<<31 - 1, 1 << 31, lastGen - 1, lastGen}

// flat and small are plans. Of flat the thread's words are at 4, 5 and 6, the head's way on at 7, the slot's words from 8 to 14. Of small Pin is at 4 and 5, Sleep at 6 and 7, Sem at 8 and 9; the head's ways on are at 10 and 11; the slots' words State at 12, 20 and 28, Dead at 13, 21 and 29, Seq at 14, 22 and 30, Tall at 15, 23 and 31, Hold at 16, 24 and 32, Succ at 17, 25 and 33, Next from 18, 26 and 34 on.
var (
	flat  = api.Plan{Threads: 1, Slots: 1, Levels: 1}
	small = api.Plan{Threads: 2, Slots: 3, Levels: 2, Gen: 9}
)

// a and b are references to the slots 1 and 2, and am and bm those with the mark; mine is one to the slot 3, the timer of which is stopped, and minem that with the mark; known is its handle.
const (
	a     = 5*half + 2
	am    = 5*half + 3
	b     = 7*half + 4
	bm    = 7*half + 5
	mine  = 9*half + 6
	minem = 9*half + 7
	known = 9*half + 3
)

// rightPlans are such of which each number is the least, one between, or the greatest.
func rightPlans() []api.Plan {
	var l []api.Plan
	for _, threads := range []int{1, 3, 8} {
		for _, slots := range []int{1, 2, 5, 64} {
			for _, levels := range []int{1, 2, 4, 8} {
				l = append(l, api.Plan{Threads: threads, Slots: slots, Levels: levels, Gen: []uint64{0, 1, lastGen}[len(l)%3]})
			}
		}
	}
	return l
}

// wrongPlans are those of which one number alone is none that there is, and those of which several are.
func wrongPlans() []api.Plan {
	l := []api.Plan{{}, {Threads: -1, Slots: -1, Levels: -1}, {Threads: 9, Slots: 65, Levels: 9, Gen: half}, {Threads: math.MaxInt, Slots: math.MaxInt, Levels: math.MaxInt, Gen: math.MaxUint64}, {Threads: math.MinInt, Slots: math.MinInt, Levels: math.MinInt}}
	for _, n := range []int{math.MinInt, math.MinInt + 1, -1<<32 + 2, -64, -1, 0, 9, 65, 1000, 1 << 31, 1<<32 + 2, math.MaxInt - 1, math.MaxInt} {
		l = append(l, api.Plan{Threads: n, Slots: 3, Levels: 3}, api.Plan{Threads: 2, Slots: n, Levels: 3}, api.Plan{Threads: 2, Slots: 3, Levels: n})
	}
	for _, gen := range []uint64{half, half + 1, 1 << 63, math.MaxUint64} {
		l = append(l, api.Plan{Threads: 2, Slots: 3, Levels: 3, Gen: gen})
	}
	return l
}

// allPlans are those that are right, and those that are not.
func allPlans() []api.Plan {
	return append(rightPlans(), wrongPlans()...)
}

// threadsOf are threads of a plan, those beside them, and some that no plan has.
func threadsOf(p api.Plan) []int {
	return []int{0, p.Threads - 1, p.Threads, p.Threads + 1, -1, -4, -5, 8, 4096, 1 << 32, least, least + 4, greatest - 4, greatest}
}

// isKnown tells whether an index is one of a handle that may be known in a plan, by chapter 30's sentence.
func isKnown(p api.Plan, index uint64) bool {
	return index >= 1 && index <= lastIndex && int(index) <= p.Slots
}

// indexes are the edges of a handle's index in a plan: those that may be known there, or those that may not.
func indexes(p api.Plan, may bool) []uint64 {
	var l []uint64
	for _, n := range []uint64{0, 1, 2, 3, 4, word(p.Slots) % half, word(p.Slots+1) % half, 64, 65, 1000, 1 << 30, lastIndex - 1, lastIndex, lastIndex + 1, lastIndex + 2, lastGen - 1, lastGen} {
		if isKnown(p, n) == may && !slices.Contains(l, n) {
			l = append(l, n)
		}
	}
	return l
}

// ref puts a reference together, and indexOf tells the index of one.
func ref(gen uint64, index int) uint64 { return gen*half + 2*uint64(index) }
func indexOf(r uint64) int             { return int(r % half / 2) }

// word is a number as a word.
func word(n int) uint64 { return uint64(n) }

// Where words stand, by chapter 8's sums: a thread's ones, and a slot's ones; nextAt of the slot 0 is the head's way on.
func pinAt(p api.Plan, thread int) int { return 4 + thread }
func stateAt(p api.Plan, slot int) int {
	return 4 + 3*p.Threads + p.Levels + (slot-1)*(6+p.Levels)
}
func deadAt(p api.Plan, slot int) int { return stateAt(p, slot) + 1 }
func seqAt(p api.Plan, slot int) int  { return stateAt(p, slot) + 2 }
func tallAt(p api.Plan, slot int) int { return stateAt(p, slot) + 3 }
func holdAt(p api.Plan, slot int) int { return stateAt(p, slot) + 4 }
func nextAt(p api.Plan, slot, level int) int {
	if slot == 0 {
		return 4 + 3*p.Threads + level
	}
	return stateAt(p, slot) + 6 + level
}

// Deeds by the numbers of their kinds, for short.
func read(at int, by uint64) api.Deed   { return api.Deed{Kind: 1, At: at, By: by} }
func put(at int, w, by uint64) api.Deed { return api.Deed{Kind: 2, At: at, A: w, By: by} }
func swap(at int, old, w, by uint64) api.Deed {
	return api.Deed{Kind: 3, At: at, A: old, B: w, By: by}
}
func add(at int, w, by uint64) api.Deed { return api.Deed{Kind: 4, At: at, A: w, By: by} }

// job is what Clear is asked, but for the limbo.
type job struct {
	plan api.Plan
	ref  uint64
}

// ask is what Stop is asked, but for the limbo.
type ask struct {
	plan   api.Plan
	thread int
	handle uint64
}

// call is the call by which it is asked.
func (q ask) call() api.Call { return api.Call{Kind: api.CallStop, Handle: q.handle} }

// step is a deed that is asked for, and what is told then.
type step struct {
	asked api.Deed
	found uint64
}

// asks asks whether a task asks for d, again and again.
func asks(t *testing.T, k task.Task, d api.Deed) {
	t.Helper()
	for range 2 {
		if got, more := k.Next(); got != d || !more {
			t.Fatalf("%+v is asked for (%v), not %+v", got, more, d)
		}
	}
}

// goes asks whether a task asks for the deeds of l, and tells it what is found.
func goes(t *testing.T, k task.Task, l ...step) {
	t.Helper()
	for n, s := range l {
		if got, more := k.Next(); got != s.asked || !more {
			t.Fatalf("%+v is asked for (%v) at %d, not %+v", got, more, n+1, s.asked)
		}
		k.Tell(s.found)
	}
}

// ended asks whether a task is done, and stays so, whatever it is told.
func ended(t *testing.T, k task.Task) {
	t.Helper()
	for _, found := range []uint64{0, 1, 2, a, am, 20, 30, 9*half + 2, 1, most, 0} {
		if got, more := k.Next(); got != (api.Deed{}) || more {
			t.Fatalf("%+v is asked for (%v) by a task that is done", got, more)
		}
		k.Tell(found)
	}
	if got, more := k.Next(); got != (api.Deed{}) || more {
		t.Fatalf("a task that is done went on to %+v (%v)", got, more)
	}
}

// won asks whether a clearer tells that the timer was won, or that it was not, again and again.
func won(t *testing.T, k *Clearer, want bool) {
	t.Helper()
	for range 2 {
		if k.Won() != want {
			t.Fatalf("it was won: %v, not %v", !want, want)
		}
	}
}

// sameAnswer tells whether two answers are the same, a batch that is nil or empty being none.
func sameAnswer(x, y api.Answer) bool {
	return x.Err == y.Err && x.Ok == y.Ok && x.Handle == y.Handle && slices.Equal(x.Batch, y.Batch)
}

// answers asks whether a stopper tells this answer and these acts, again and again.
func answers(t *testing.T, k *Stopper, want api.Answer, acts ...api.Act) {
	t.Helper()
	for range 2 {
		if got := k.Answer(); !sameAnswer(got, want) {
			t.Fatalf("%+v is answered, not %+v", got, want)
		}
		if got := k.Acts(); !slices.Equal(got, acts) {
			t.Fatalf("%+v was done, not %+v", got, acts)
		}
	}
}

// stopped and missed are the acts of a stop that wins its timer, and of one that does not: they stand at the third deed, as there are two by which the thread is pinned.
func stopped(h uint64) api.Act { return api.Act{Kind: 3, Handle: h, Step: 3} }
func missed(h uint64) api.Act  { return api.Act{Kind: 4, Handle: h, Step: 3} }

// yes is what a stop answers that won its timer.
var yes = api.Answer{Ok: true}

// waiting makes a limbo with these slots.
func waiting(l ...api.Retired) *limbo.Limbo {
	w := limbo.New()
	for _, r := range l {
		w.Add(r.Ref, r.Epoch)
	}
	return w
}

// waits asks whether just these slots wait in a limbo.
func waits(t *testing.T, l *limbo.Limbo, want ...api.Retired) {
	t.Helper()
	if got := l.All(); !slices.Equal(got, want) {
		t.Fatalf("%+v wait, not %+v", got, want)
	}
}

// At which of the chapter's steps a task is.
const (
	pinning = iota
	claiming
	reading
	finishing
	leaving
	over
)

// tale is the task that goes as a story says, in which the chapter's sentences are written down one behind the other.
type tale struct {
	next   func() (api.Deed, bool)
	end    func() // lets go of a tale that nobody asks any more
	yield  func(api.Deed) bool
	now    api.Deed
	more   bool
	found  uint64
	steps  int // how many deeds were told
	at     int
	won    bool
	answer api.Answer
	acts   []api.Act
	limbo  *limbo.Limbo
	ref    uint64
	key    api.Key
}

// leftEarly is what ends a story that nobody asks any more.
type leftEarly struct{}

// tell makes the tale of a story.
func tell(l *limbo.Limbo, story func(s *tale)) *tale {
	s := &tale{limbo: l}
	s.next, s.end = iter.Pull(func(yield func(api.Deed) bool) {
		defer func() {
			if r := recover(); r != nil && r != any(leftEarly{}) {
				panic(r)
			}
		}()
		s.yield = yield
		story(s)
		s.at = over
	})
	s.now, s.more = s.next()
	return s
}

func (s *tale) Next() (api.Deed, bool) { return s.now, s.more }

func (s *tale) Tell(found uint64) {
	if s.more {
		s.steps++
		s.found = found
		s.now, s.more = s.next()
	}
}

// do asks for a deed of the story, and tells what is found by it.
func (s *tale) do(d api.Deed) uint64 {
	if !s.yield(d) {
		panic(leftEarly{})
	}
	return s.found
}

// all does the steps of a task of another layer.
func (s *tale) all(at int, k task.Task) {
	s.at = at
	for {
		d, more := k.Next()
		if !more {
			return
		}
		k.Tell(s.do(d))
	}
}

// story tells the sentences of 32.1. What is to be done at its first step is handed in.
func (j job) story(s *tale, first func()) {
	s.ref = j.ref
	k := claim.Claim(j.plan, j.ref)
	s.all(claiming, k)
	s.won = k.Won()
	first()
	if !s.won {
		return
	}
	s.at = reading
	s.key.Deadline = int(s.do(read(deadAt(j.plan, indexOf(j.ref)), j.ref)))
	s.key.Seq = s.do(read(seqAt(j.plan, indexOf(j.ref)), j.ref))
	f := finish.Finish(j.plan, j.ref, s.key)
	s.all(finishing, f)
	if r, ok := f.Retired(); ok {
		s.limbo.Add(r.Ref, r.Epoch)
	}
}

// story tells the sentences of 32.2.
func (q ask) story(s *tale) {
	if !isKnown(q.plan, q.handle%half) {
		return
	}
	s.all(pinning, pin.Pin(q.plan, q.thread))
	job{q.plan, ref(q.handle/half, int(q.handle%half))}.story(s, func() {
		kind := 4
		if s.won {
			kind = 3
		}
		s.acts = append(s.acts, api.Act{Kind: kind, Handle: q.handle, Step: s.steps})
	})
	s.all(leaving, pin.Unpin(q.plan, q.thread))
	s.answer = api.Answer{Ok: s.won}
}

// pair is a clearer or a stopper under way, and its tale, each with a limbo of its own, in which the same slots waited at the beginning.
type pair struct {
	fast  task.Task
	limbo *limbo.Limbo
	slow  *tale
	of    string
	plan  api.Plan
}

// pair makes the pair of a job.
func (j job) pair(l ...api.Retired) *pair {
	w := waiting(l...)
	story := func(s *tale) { j.story(s, func() {}) }
	return &pair{Clear(j.plan, w, j.ref), w, tell(waiting(l...), story), fmt.Sprintf("Clear of %+v", j), j.plan}
}

// pair makes the pair of what Stop is asked.
func (q ask) pair(l ...api.Retired) *pair {
	w := waiting(l...)
	return &pair{Stop(q.plan, q.thread, q.call(), w), w, tell(waiting(l...), q.story), fmt.Sprintf("Stop of %+v", q), q.plan}
}

// same asks whether a task stands where its tale does, in whatever it tells, and tells whether it goes on.
func (g *pair) same(t *testing.T) bool {
	t.Helper()
	s := g.slow
	if got, more := g.fast.Next(); got != s.now || more != s.more {
		t.Fatalf("%s asks for %+v (%v) at %d, not for %+v (%v)", g.of, got, more, s.steps+1, s.now, s.more)
	}
	if l, want := g.limbo.All(), s.limbo.All(); !slices.Equal(l, want) {
		t.Fatalf("behind %d steps of %s there wait %+v, not %+v", s.steps, g.of, l, want)
	}
	switch k := g.fast.(type) {
	case *Clearer:
		if k.Won() != s.won {
			t.Fatalf("behind %d steps of %s the timer was won: %v", s.steps, g.of, k.Won())
		}
	case *Stopper:
		if got := k.Answer(); !sameAnswer(got, s.answer) {
			t.Fatalf("behind %d steps of %s %+v is answered, not %+v", s.steps, g.of, got, s.answer)
		}
		if got := k.Acts(); !slices.Equal(got, s.acts) {
			t.Fatalf("behind %d steps of %s %+v was done, not %+v", s.steps, g.of, got, s.acts)
		}
	}
	return s.more
}

// tell tells both what was found.
func (g *pair) tell(found uint64) {
	g.fast.Tell(found)
	g.slow.Tell(found)
}

// isTall tells whether the deed that is asked for is the one that finds how high the timer is.
func (g *pair) isTall() bool {
	s := g.slow
	return s.at == finishing && s.now == read(tallAt(g.plan, indexOf(s.ref)), s.ref)
}

// plain is what is found by the deed that is asked for, where the timer is live, of the key 20, 30 and the height 2, nobody else holds it, and no slot stands in a chain.
func (g *pair) plain() uint64 {
	d, at := g.slow.now, g.slow.at
	switch {
	case d.Kind == 3:
		return d.A
	case d.Kind == 4:
		return 1
	case g.isTall():
		return 2
	case at == reading && d.At == deadAt(g.plan, indexOf(d.By)):
		return 20
	case at == reading:
		return 30
	}
	return 0
}

// choices are words that may be found by the deed that is asked for: those that the chapters tell apart, and others.
func (g *pair) choices() []uint64 {
	d, at, dead, seq := g.slow.now, g.slow.at, g.slow.key.Deadline, g.slow.key.Seq
	switch {
	case d.Kind == 2:
		return []uint64{0, most}
	case at == claiming:
		return []uint64{d.A, d.A + 1, d.A - 1, d.A - 2, d.A + half, d.A - half, most}
	case d.Kind == 3:
		return []uint64{d.A, d.A + 1, d.B, d.A + 2, d.A + half}
	case d.Kind == 4:
		return []uint64{0, 1, 2, 3, 1 + half, most}
	case at == pinning:
		return []uint64{0, 7, most}
	case at == reading:
		return []uint64{0, 1, 19, 20, 30, 1 << 63, most}
	case g.isTall():
		return []uint64{0, 1, 2, 3, 9, 1 << 63, most}
	}
	if slot := indexOf(d.By); slot != 0 {
		switch d.At {
		case deadAt(g.plan, slot):
			return []uint64{word(dead - 1), word(dead), word(dead + 1)}
		case seqAt(g.plan, slot):
			return []uint64{seq - 1, seq, seq + 1}
		}
	}
	return []uint64{0, 1, a, bm, mine, minem, 9 * half}
}

// luck is what is found by the deed that is asked for by chance, mostly such that it goes on.
func (g *pair) luck(r *rand.Rand) uint64 {
	some := g.choices()
	switch r.Intn(8) {
	case 0, 1:
		return some[r.Intn(len(some))]
	case 2:
		if r.Intn(6) == 0 {
			return anyWord(r)
		}
	}
	return g.plain()
}

// anyWord is a reference of chance, with a mark or without, an edge, or any word.
func anyWord(r *rand.Rand) uint64 {
	switch r.Intn(4) {
	case 0:
		return r.Uint64()
	case 1:
		return words[r.Intn(len(words))]
	}
	return ref([]uint64{0, 1, uint64(r.Uint32()), lastGen}[r.Intn(4)], r.Intn(70)) + uint64(r.Intn(2))
}

// made makes the memory at the beginning of a right plan.
func made(t *testing.T, p api.Plan) *cells.Cells {
	t.Helper()
	c, err := blank.Make(p)
	if err != api.OK {
		t.Fatalf("no memory of %+v: %d", p, err)
	}
	return c
}

// memory makes a memory of words.
func memory(t *testing.T, l []uint64) *cells.Cells {
	t.Helper()
	c, err := cells.Of(l)
	if err != api.OK {
		t.Fatal(err)
	}
	return c
}

// stands asks whether a memory has just these words.
func stands(t *testing.T, c *cells.Cells, l []uint64) {
	t.Helper()
	if got := c.Words(); !slices.Equal(got, l) {
		t.Fatalf("%v stand, not %v", got, l)
	}
}

// begin starts a timer, alone, and tells its handle.
func begin(t *testing.T, c *cells.Cells, p api.Plan, thread, deadline int, draw uint64) uint64 {
	t.Helper()
	k := start.Start(p, thread, api.Call{Kind: api.CallStart, Deadline: deadline, Draw: draw}, nil)
	task.Play(c, k, 9000)
	if !k.Answer().Ok {
		t.Fatalf("%+v is answered by a start", k.Answer())
	}
	return k.Answer().Handle
}

// exampleSteps are the 14 deeds of the chapter's example, and what is found by each.
var exampleSteps = []step{
	{read(0, 0), 1}, {put(4, 1, 0), 0},
	{swap(8, 2, 3, 0), 2},
	{read(9, 2), 5}, {read(10, 2), 0},
	{read(11, 2), 1}, {read(14, 2), 0}, {swap(14, 0, 1, 2), 0}, {add(12, most, 2), 1},
	{read(7, 0), 2}, {read(14, 2), 1}, {swap(7, 2, 0, 0), 2}, {read(0, 0), 1},
	{put(4, 0, 0), 1},
}

// 32.1 and 32.2: the chapter's example, in numbers: 14 deeds, of which the third one is the one at which the timer is stopped; it is taken then, in no chain, and its slot waits.
func TestExample(t *testing.T) {
	c, l := made(t, flat), limbo.New()
	if h := begin(t, c, flat, 0, 5, 0); h != 1 {
		t.Fatalf("the handle is %d", h)
	}
	stands(t, c, []uint64{1, 0, 1, half, 0, 0, 0, 2, 2, 5, 0, 1, 1, 0, 0})
	k := Stop(flat, 0, api.Call{Kind: 2, Handle: 1}, l)
	answers(t, k, api.Answer{})
	found := task.Play(c, k, 99)
	if want := []uint64{1, 0, 2, 5, 0, 1, 0, 0, 1, 2, 1, 2, 1, 1}; len(found) != 14 || !slices.Equal(found, want) {
		t.Fatalf("%v was found, not %v", found, want)
	}
	ended(t, k)
	answers(t, k, api.Answer{Ok: true}, api.Act{Kind: 3, Handle: 1, Step: 3})
	stands(t, c, []uint64{1, 0, 1, half, 0, 0, 0, 0, 3, 5, 0, 1, 0, 0, 1})
	waits(t, l, api.Retired{Ref: 2, Epoch: 1})
	// The same once more: it is taken already.
	stand := c.Words()
	k = Stop(flat, 0, api.Call{Kind: 2, Handle: 1}, l)
	if found := task.Play(c, k, 99); !slices.Equal(found, []uint64{1, 0, 3, 1}) {
		t.Fatalf("%v was found", found)
	}
	ended(t, k)
	answers(t, k, api.Answer{}, api.Act{Kind: 4, Handle: 1, Step: 3})
	stands(t, c, stand)
	waits(t, l, api.Retired{Ref: 2, Epoch: 1})
}

// 32.1 and 32.2: the chapter's example, deed by deed, and what is told ahead of each one, and behind it: the act stands from the third one on, and the answer behind the 14th; the slot waits behind the 13th.
func TestExampleDeedByDeed(t *testing.T) {
	l, m := limbo.New(), limbo.New()
	gone := api.Retired{Ref: 2, Epoch: 1}
	k := Stop(flat, 0, api.Call{Handle: 1}, l)
	for n, s := range exampleSteps {
		if n < 3 {
			answers(t, k, api.Answer{})
		} else {
			answers(t, k, api.Answer{}, stopped(1))
		}
		waits(t, l, []api.Retired{gone}[:n/13]...)
		goes(t, k, s)
	}
	answers(t, k, yes, stopped(1))
	ended(t, k)
	answers(t, k, yes, stopped(1))
	waits(t, l, gone)
	// The same without the thread's being pinned.
	i := Clear(flat, m, 2)
	for n, s := range exampleSteps[2:13] {
		won(t, i, n > 0)
		waits(t, m)
		goes(t, i, s)
	}
	ended(t, i)
	won(t, i, true)
	waits(t, m, gone)
}

// hardSteps are the steps by which the timer of the handle known, of the deadline 20, the number 30 and the height 2, is taken, and taken out, where somebody comes between at both levels.
var hardSteps = []step{
	{swap(28, 9*half+2, 9*half+3, 0), 9*half + 2},
	{read(29, mine), 20}, {read(30, mine), 30},
	{read(31, mine), 2},
	{read(35, mine), 0}, {swap(35, 0, 1, mine), b}, {read(35, mine), b}, {swap(35, b, bm, mine), b},
	{read(34, mine), a}, {swap(34, a, am, mine), a},
	{add(32, most, mine), 1},
	{read(11, 0), mine}, {read(35, mine), bm}, {swap(11, mine, b, 0), a},
	{read(11, 0), a}, {read(19, a), mine}, {read(13, a), 19}, {read(35, mine), bm}, {swap(19, mine, b, a), mine}, {read(27, b), 0}, {read(21, b), 20}, {read(22, b), 31},
	{read(18, a), mine}, {read(34, mine), bm}, {swap(18, mine, b, a), mine}, {read(26, b), 0}, {read(21, b), 21},
	{read(0, 0), 12},
}

// 32.1: all steps of a clearer in numbers, with what somebody else does between them: Won turns at the first one, and the slot comes into the limbo, among those that wait there, as soon as the epoch is told.
func TestClearInNumbers(t *testing.T) {
	l := waiting(api.Retired{Ref: 2, Epoch: 9}, api.Retired{Ref: 4, Epoch: 10})
	k := Clear(small, l, mine)
	for n, s := range hardSteps {
		won(t, k, n > 0)
		waits(t, l, api.Retired{Ref: 2, Epoch: 9}, api.Retired{Ref: 4, Epoch: 10})
		goes(t, k, s)
	}
	ended(t, k)
	won(t, k, true)
	waits(t, l, api.Retired{Ref: 2, Epoch: 9}, api.Retired{Ref: mine, Epoch: 12}, api.Retired{Ref: 4, Epoch: 10})
}

// 32.1: a timer that somebody else holds still: it is marked, and let go of, and nothing is retired.
func TestHeldBySomebodyElse(t *testing.T) {
	for _, hold := range []uint64{0, 2, 3, half + 1, 1<<63 + 1, most} {
		l := waiting(api.Retired{Ref: 2, Epoch: 9})
		k := Clear(small, l, mine)
		goes(t, k, hardSteps[:10]...)
		goes(t, k, step{add(32, most, mine), hold})
		ended(t, k)
		won(t, k, true)
		waits(t, l, api.Retired{Ref: 2, Epoch: 9})
		q := Stop(small, 1, api.Call{Handle: known}, l)
		goes(t, q, step{read(0, 0), 7}, step{put(5, 7, 0), 0})
		goes(t, q, hardSteps[:10]...)
		goes(t, q, step{add(32, most, mine), hold})
		answers(t, q, api.Answer{}, stopped(known))
		goes(t, q, step{put(5, 0, 0), 7})
		ended(t, q)
		answers(t, q, yes, stopped(known))
		waits(t, l, api.Retired{Ref: 2, Epoch: 9})
	}
}

// 32.2: all steps of a stopper in numbers, with what somebody else does between them: those of a clearer stand between the pin and the thread's leaving.
func TestStopInNumbers(t *testing.T) {
	l := limbo.New()
	k := Stop(small, 1, api.Call{Kind: 2, Handle: known}, l)
	for _, s := range []step{{read(0, 0), 7}, {put(5, 7, 0), 0}, hardSteps[0]} {
		answers(t, k, api.Answer{})
		goes(t, k, s)
	}
	for _, s := range hardSteps[1:] {
		answers(t, k, api.Answer{}, stopped(known))
		waits(t, l)
		goes(t, k, s)
	}
	answers(t, k, api.Answer{}, stopped(known))
	waits(t, l, api.Retired{Ref: mine, Epoch: 12})
	goes(t, k, step{put(5, 0, 0), 7})
	answers(t, k, yes, stopped(known))
	ended(t, k)
	answers(t, k, yes, stopped(known))
	waits(t, l, api.Retired{Ref: mine, Epoch: 12})
}

// 32.1 and 32.2: each deed in the names of api's, of layers 2, 4, 8 and 30.
func TestDeedsByName(t *testing.T) {
	p := api.Plan{Threads: 2, Slots: 3, Levels: 2}
	r := refer.Of(3, 2)
	k := Stop(p, 1, api.Call{Kind: api.CallStop, Handle: handle.Of(r)}, nil)
	goes(t, k,
		step{api.Deed{Kind: api.Load, At: api.AtEpoch}, 6},
		step{api.Deed{Kind: api.Store, At: plan.Pin(p, 1), A: 6}, 0},
		step{api.Deed{Kind: api.Swap, At: plan.State(p, 2), A: state.Of(3, api.Live), B: state.Of(3, api.Taken)}, state.Of(3, api.Live)},
		step{api.Deed{Kind: api.Load, At: plan.Dead(p, 2), By: r}, api.MaxTime},
		step{api.Deed{Kind: api.Load, At: plan.Seq(p, 2), By: r}, 77},
		step{api.Deed{Kind: api.Load, At: plan.Tall(p, 2), By: r}, 1},
		step{api.Deed{Kind: api.Load, At: plan.Next(p, 2, 0), By: r}, 0},
		step{api.Deed{Kind: api.Swap, At: plan.Next(p, 2, 0), A: 0, B: refer.Mark(0), By: r}, 0},
		step{api.Deed{Kind: api.Add, At: plan.Hold(p, 2), A: math.MaxUint64, By: r}, 1},
		step{api.Deed{Kind: api.Load, At: plan.Next(p, 0, 1)}, 0},
		step{api.Deed{Kind: api.Load, At: plan.Next(p, 0, 0)}, r},
		step{api.Deed{Kind: api.Load, At: plan.Next(p, 2, 0), By: r}, refer.Mark(0)},
		step{api.Deed{Kind: api.Swap, At: plan.Next(p, 0, 0), A: r, B: 0}, r},
		step{api.Deed{Kind: api.Load, At: api.AtEpoch}, 6},
		step{api.Deed{Kind: api.Store, At: plan.Pin(p, 1)}, 6})
	answers(t, k, api.Answer{Ok: true}, api.Act{Kind: api.ActStop, Handle: handle.Of(r), Step: 3})
	if api.CallStop != 2 || api.ActStop != 3 || api.ActMiss != 4 {
		t.Error("the numbers of api's names are not the document's")
	}
}

// 32.2: a handle that may not be known in the plan, of any generation: it asks for nothing, and answers Answer{} at once, with no act, whatever thread it is asked of, and whatever it is told.
func TestHandlesThatMayNotBeKnown(t *testing.T) {
	one := api.Retired{Ref: 2, Epoch: 3}
	for _, p := range allPlans() {
		for _, index := range indexes(p, false) {
			for i, gen := range gens {
				for _, l := range []*limbo.Limbo{nil, waiting(one)} {
					for _, thread := range []int{0, 1, threadsOf(p)[i]} {
						k := Stop(p, thread, api.Call{Kind: 2, Handle: gen*half + index}, l)
						answers(t, k, api.Answer{})
						ended(t, k)
						answers(t, k, api.Answer{})
					}
					if l != nil {
						waits(t, l, one)
					}
				}
			}
		}
	}
	for _, p := range rightPlans() {
		c := made(t, p)
		begin(t, c, p, 0, 5, 1)
		stand := c.Words()
		for _, h := range []uint64{0, p.Gen * half, word(p.Slots) + 1, p.Gen*half + word(p.Slots) + 1, p.Gen*half + lastIndex, lastIndex + 1, p.Gen*half + lastIndex + 2, lastGen, most} {
			k := Stop(p, 0, api.Call{Kind: 2, Handle: h}, limbo.New())
			if l := task.Play(c, k, 99); len(l) != 0 {
				t.Fatalf("%v was found by a stop of %d", l, h)
			}
			stands(t, c, stand)
			answers(t, k, api.Answer{})
		}
	}
}

// 32.2: a handle that may be known: the state of its slot, at its own place, is swapped at the third deed, of its generation; a plan that is not right may have any slot up to 2^31 - 1.
func TestHandlesThatMayBeKnown(t *testing.T) {
	for _, p := range allPlans() {
		for _, index := range indexes(p, true) {
			for i, gen := range gens {
				for _, thread := range []int{0, threadsOf(p)[i], threadsOf(p)[i+6]} {
					h, live, at := gen*half+index, gen*half+2, stateAt(p, int(index))
					k := Stop(p, thread, api.Call{Kind: 2, Handle: h}, nil)
					answers(t, k, api.Answer{})
					goes(t, k, step{read(0, 0), words[i]}, step{put(4+thread, words[i], 0), 3})
					answers(t, k, api.Answer{})
					goes(t, k, step{swap(at, live, live+1, 0), live})
					answers(t, k, api.Answer{}, stopped(h))
					goes(t, k, step{read(at+1, ref(gen, int(index))), 20}, step{read(at+2, ref(gen, int(index))), 30})
					asks(t, k, read(at+3, ref(gen, int(index))))
				}
			}
		}
	}
	if l := indexes(api.Plan{Slots: greatest}, true); !slices.Contains(l, lastIndex) || slices.Contains(l, lastIndex+1) {
		t.Errorf("%v may be known", l)
	}
}

// 32.2: a call's Kind, Deadline, Draw and Count count for nothing.
func TestOtherFieldsOfACall(t *testing.T) {
	for i, w := range words {
		k := Stop(small, 1, api.Call{Kind: i - 1, Deadline: int(w), Draw: w, Handle: known, Count: -int(w)}, nil)
		goes(t, k, step{read(0, 0), 7}, step{put(5, 7, 0), 0})
		goes(t, k, hardSteps...)
		goes(t, k, step{put(5, 0, 0), 7})
		ended(t, k)
		answers(t, k, yes, stopped(known))
		k = Stop(small, 1, api.Call{Kind: i - 1, Deadline: int(w), Draw: w, Handle: 9 * half, Count: int(w)}, nil)
		ended(t, k)
		answers(t, k, api.Answer{})
	}
}

// 32.1 and 32.2: whatever the state was, but live and of the reference's generation, each bit of it counting: Clear ends behind its first step, and has not won; Stop has missed, and leaves at once, and answers Answer{} behind that.
func TestNotWon(t *testing.T) {
	for _, gen := range gens {
		h, live := gen*half+3, gen*half+2
		founds := []uint64{live - 2, live - 1, live + 1, live + 2, live - half, live + half, live + 1 - half, 0, most}
		for bit := range 64 {
			founds = append(founds, live^1<<bit)
		}
		for _, found := range append(founds, words...) {
			if found == live {
				continue
			}
			for _, l := range []*limbo.Limbo{nil, waiting(api.Retired{Ref: 4, Epoch: 6})} {
				was := l.All()
				k := Clear(small, l, ref(gen, 3))
				won(t, k, false)
				goes(t, k, step{swap(28, live, live+1, 0), found})
				won(t, k, false)
				ended(t, k)
				won(t, k, false)
				q := Stop(small, 0, api.Call{Kind: 2, Handle: h}, l)
				goes(t, q, step{read(0, 0), 7}, step{put(4, 7, 0), 0})
				answers(t, q, api.Answer{})
				goes(t, q, step{swap(28, live, live+1, 0), found})
				answers(t, q, api.Answer{}, missed(h))
				goes(t, q, step{put(4, 0, 0), 7})
				answers(t, q, api.Answer{}, missed(h))
				ended(t, q)
				answers(t, q, api.Answer{}, missed(h))
				waits(t, l, was...)
			}
		}
	}
}

// 32.1: any reference, with the mark or without it, of a slot that there is or not: its index says where its words are, which are reached By the reference as it is handed in, and as that it is retired; the state is of its generation.
func TestReferences(t *testing.T) {
	for _, p := range []api.Plan{{}, flat, small, {Threads: 8, Slots: 64, Levels: 8, Gen: lastGen}, {Threads: -1, Slots: -5, Levels: -7}} {
		for _, index := range []int{0, 1, 2, 3, 64, 65, 1 << 30, lastIndex - 1, lastIndex} {
			for _, gen := range gens {
				for mark := range uint64(2) {
					r, at, l := ref(gen, index)+mark, stateAt(p, index), limbo.New()
					k := Clear(p, l, r)
					goes(t, k, step{swap(at, gen*half+2, gen*half+3, 0), gen*half + 2},
						step{read(at+1, r), 20}, step{read(at+2, r), 30}, step{read(at+3, r), 0}, step{add(at+4, most, r), 1})
					won(t, k, true)
					for h := max(0, p.Levels) - 1; h >= 0; h-- {
						goes(t, k, step{read(nextAt(p, 0, h), 0), 0})
					}
					waits(t, l)
					goes(t, k, step{read(0, 0), 8})
					ended(t, k)
					won(t, k, true)
					waits(t, l, api.Retired{Ref: r, Epoch: 8})
				}
			}
		}
	}
}

// 32.1: it is the key that was loaded of the timer's Dead and Seq that is sought, of any deadline, as an int, and any number, as a word.
func TestKeys(t *testing.T) {
	for _, dead := range deadlines {
		for _, seq := range seqs {
			for _, row := range []struct {
				key  api.Key // of the other one
				less bool
			}{
				{api.Key{Deadline: dead - 1, Seq: most}, dead != least}, {api.Key{Deadline: dead + 1}, dead == greatest},
				{api.Key{Deadline: dead, Seq: seq - 1}, seq != 0}, {api.Key{Deadline: dead, Seq: seq}, false}, {api.Key{Deadline: dead, Seq: seq + 1}, seq == most},
				{api.Key{Deadline: least}, dead != least || seq != 0}, {api.Key{Deadline: greatest, Seq: most}, false}, {api.Key{Deadline: 0, Seq: 7}, dead > 0 || dead == 0 && seq > 7},
			} {
				k := Clear(flat, nil, 2)
				goes(t, k, exampleSteps[2], step{read(9, 2), word(dead)}, step{read(10, 2), seq}, step{read(11, 2), 0}, step{add(12, most, 2), 1})
				goes(t, k, step{read(7, 0), a}, step{read(14, a), b}, step{read(9, a), word(row.key.Deadline)})
				if row.key.Deadline == dead {
					goes(t, k, step{read(10, a), row.key.Seq})
				}
				// What is less is passed; of what is not the seek is at its end.
				if row.less {
					goes(t, k, step{read(21, b), 0}, step{read(16, b), word(dead)}, step{read(17, b), seq})
				}
				goes(t, k, step{read(0, 0), 4})
				ended(t, k)
			}
		}
	}
}

// 32.1: the timer's height, which is loaded behind its key: as many levels are marked as it says, as an int, and as the plan has; of none, or of one below 0, the Add follows at once.
func TestHeights(t *testing.T) {
	for levels := range 9 {
		p := api.Plan{Threads: 1, Slots: 2, Levels: levels}
		for _, tall := range append([]uint64{6, 8, 9, 10}, words...) {
			k, at := Clear(p, nil, 4), stateAt(p, 2)
			goes(t, k, step{swap(at, 2, 3, 0), 2}, step{read(at+1, 4), 20}, step{read(at+2, 4), 30}, step{read(at+3, 4), tall})
			for h := min(max(int(tall), 0), levels) - 1; h >= 0; h-- {
				goes(t, k, step{read(at+6+h, 4), a}, step{swap(at+6+h, a, am, 4), a})
			}
			goes(t, k, step{add(at+4, most, 4), 2})
			ended(t, k)
			won(t, k, true)
		}
	}
}

// 32.1: the slot comes into the limbo just if the Add found 1, as soon as the epoch is told, in that epoch, whatever waits there; no limbo keeps nothing.
func TestRetired(t *testing.T) {
	for _, hold := range []uint64{0, 1, 2, 3, half, half + 1, 1 << 63, 1<<63 + 1, most} {
		for _, epoch := range words {
			old := []api.Retired{{Ref: 2, Epoch: 0}, {Ref: 4, Epoch: 1}, {Ref: mine, Epoch: 2}}
			before, both := waiting(old...).All(), waiting(append(old, api.Retired{Ref: mine, Epoch: epoch})...).All()
			for i, l := range []*limbo.Limbo{nil, limbo.New(), waiting(old...), {}} {
				k := Clear(small, l, mine)
				goes(t, k, hardSteps[:3]...)
				goes(t, k, step{read(31, mine), 0})
				waits(t, l, [][]api.Retired{nil, nil, before, nil}[i]...)
				goes(t, k, step{add(32, most, mine), hold})
				waits(t, l, [][]api.Retired{nil, nil, before, nil}[i]...)
				if hold == 1 {
					goes(t, k, step{read(11, 0), 0}, step{read(10, 0), 0})
					waits(t, l, [][]api.Retired{nil, nil, before, nil}[i]...)
					goes(t, k, step{read(0, 0), epoch})
					alone := []api.Retired{{Ref: mine, Epoch: epoch}}
					waits(t, l, [][]api.Retired{nil, alone, both, alone}[i]...)
				}
				got := l.All()
				ended(t, k)
				waits(t, l, got...)
			}
		}
	}
}

// somePairs makes pairs of plans that are right, and of such as are not.
func somePairs() []func() *pair {
	var l []func() *pair
	for _, p := range []api.Plan{{Slots: 3}, flat, small, {Threads: 2, Slots: 1 << 40, Levels: 3}} {
		for _, r := range []uint64{2, 0, mine, minem} {
			l = append(l, func() *pair { return job{p, r}.pair(api.Retired{Ref: b, Epoch: 5}) })
		}
		for _, h := range []uint64{1, known, lastGen*half + 1} {
			l = append(l, func() *pair { return ask{p, 1, h}.pair(api.Retired{Ref: a, Epoch: 3}) })
		}
		l = append(l, func() *pair { return ask{p, -3, 1}.pair() })
	}
	return l
}

// goOn lets a pair go on for at most so many steps, with what is found where nobody else is.
func (g *pair) goOn(t *testing.T, most int) {
	t.Helper()
	for n := 0; g.same(t) && n < most; n++ {
		g.tell(g.plain())
	}
	g.slow.end()
}

// 32.1 and 32.2: at each step of a way that nobody comes into: whatever is found at it, be it one of the words that the chapters tell apart, or any edge, it goes on as the chapter's sentences say.
func TestWhateverIsFound(t *testing.T) {
	for _, begin := range somePairs() {
		for n := range 30 {
			g := begin()
			for i := 0; g.same(t) && i < n; i++ {
				g.tell(g.plain())
			}
			all := append(g.choices(), words...)
			more := g.slow.more
			g.slow.end()
			if !more {
				break
			}
			for _, w := range all {
				g := begin()
				for range n {
					g.tell(g.plain())
				}
				g.same(t)
				g.tell(w)
				g.goOn(t, 40)
			}
		}
	}
}

// 32.1 and 32.2: the same of two steps that are at most five apart, with the words that the chapters tell apart.
func TestWhateverIsFoundTwice(t *testing.T) {
	for _, begin := range somePairs() {
		for n := 0; n < 18; n++ {
			for m := n + 1; m < n+6; m++ {
				for i := range 7 {
					for j := range 7 {
						g := begin()
						for at := 0; g.same(t) && at < m+12; at++ {
							some := g.choices()
							switch {
							case at == n && i < len(some):
								g.tell(some[i])
							case at == m && j < len(some):
								g.tell(some[j])
							default:
								g.tell(g.plain())
							}
						}
						g.slow.end()
					}
				}
			}
		}
	}
}

// anyHandle is a handle of chance: mostly one that may be known in a plan.
func anyHandle(r *rand.Rand, p api.Plan) uint64 {
	l := indexes(p, r.Intn(5) > 0)
	if len(l) == 0 {
		return r.Uint64()
	}
	return gens[r.Intn(len(gens))]*half + l[r.Intn(len(l))]
}

// 32.1 and 32.2: words of chance, of which most are such as the chapters tell apart, of all plans, threads, handles and references.
func TestWordsOfChance(t *testing.T) {
	r := rand.New(rand.NewSource(32))
	done, under, wrong, retired, missed := 0, 0, 0, 0, 0
	for _, p := range allPlans() {
		for range 200 {
			var g *pair
			if r.Intn(3) == 0 {
				g = job{p, anyWord(r)}.pair(api.Retired{Ref: anyWord(r), Epoch: anyWord(r)})
			} else {
				g = ask{p, threadsOf(p)[r.Intn(14)], anyHandle(r, p)}.pair(api.Retired{Ref: anyWord(r), Epoch: anyWord(r)})
			}
			before := g.limbo.Len()
			for i := 0; g.same(t) && i < 200; i++ {
				g.tell(g.luck(r))
			}
			switch {
			case g.slow.more:
				under++
			case g.slow.steps == 0:
				wrong++
			case !g.slow.won:
				missed++
			default:
				done++
			}
			if g.limbo.Len() > before {
				retired++
			}
			g.slow.end()
		}
	}
	if done < 5000 || under < 500 || wrong < 500 || retired < 3000 || missed < 1000 {
		t.Errorf("%d are done, %d under way, %d wrong, %d missed; %d slots were retired", done, under, wrong, missed, retired)
	}
}

// hard makes a stopper of which the steps are those of hardCourse, and a clearer of which they are hardSteps.
func hard(l *limbo.Limbo) *Stopper { return Stop(small, 1, api.Call{Handle: known}, l) }
func hardClear() *Clearer          { return Clear(small, nil, mine) }
func hardCourse() []step {
	return slices.Concat([]step{{read(0, 0), 7}, {put(5, 7, 0), 0}}, hardSteps, []step{{put(5, 0, 0), 7}})
}

// 32.1 and 32.2: asking changes nothing, however often: at each step, and at the end.
func TestAskingChangesNothing(t *testing.T) {
	l := limbo.New()
	k, i := hard(l), hardClear()
	for _, s := range hardCourse() {
		for range 50 {
			asks(t, k, s.asked)
			answers(t, k, api.Answer{}, k.Acts()...)
		}
		k.Tell(s.found)
	}
	for n, s := range hardSteps {
		for range 50 {
			asks(t, i, s.asked)
			won(t, i, n > 0)
		}
		i.Tell(s.found)
	}
	for range 50 {
		ended(t, k)
		answers(t, k, yes, stopped(known))
		ended(t, i)
		won(t, i, true)
	}
	waits(t, l, api.Retired{Ref: mine, Epoch: 12})
}

// 32.1 and 32.2: a task is told ahead of being asked, and goes on all the same; so do its answers.
func TestTellAheadOfNext(t *testing.T) {
	course := hardCourse()
	for n := range course {
		k := hard(nil)
		for _, s := range course[:n] {
			k.Tell(s.found)
		}
		asks(t, k, course[n].asked)
	}
	for n := range hardSteps {
		k := hardClear()
		for _, s := range hardSteps[:n] {
			k.Tell(s.found)
		}
		won(t, k, n > 0)
		asks(t, k, hardSteps[n].asked)
	}
	l := limbo.New()
	k := hard(l)
	for _, s := range course {
		k.Tell(s.found)
	}
	answers(t, k, yes, stopped(known))
	waits(t, l, api.Retired{Ref: mine, Epoch: 12})
}

// 32.1, 32.2 and R7: a clearer or a stopper that is nil, or that no call made, is done, stays so, does nothing, and tells nothing.
func TestTasksThatNoCallMade(t *testing.T) {
	var none *Clearer
	var no *Stopper
	for _, k := range []*Clearer{none, {}, new(Clearer)} {
		won(t, k, false)
		ended(t, k)
		c := made(t, small)
		stand := c.Words()
		if l := task.Play(c, k, 9); len(l) != 0 {
			t.Errorf("%v was found", l)
		}
		stands(t, c, stand)
		won(t, k, false)
	}
	for _, k := range []*Stopper{no, {}, new(Stopper)} {
		answers(t, k, api.Answer{})
		ended(t, k)
		c := made(t, small)
		stand := c.Words()
		if l := task.Play(c, k, 9); len(l) != 0 {
			t.Errorf("%v was found", l)
		}
		stands(t, c, stand)
		answers(t, k, api.Answer{})
	}
}

// 32.1 and 32.2: each task goes its own way, of the same call and of others, with the same limbo and with another one.
func TestTasksAreApart(t *testing.T) {
	l, m := limbo.New(), limbo.New()
	x, y, z := hard(l), hard(l), hard(m)
	other, lost, wrong := Clear(flat, m, 2), Stop(small, 0, api.Call{Handle: 1}, l), Stop(small, 0, api.Call{Handle: 4}, l)
	goes(t, lost, step{read(0, 0), 7}, step{put(4, 7, 0), 0}, step{swap(12, 2, 3, 0), 3})
	for _, s := range hardCourse() {
		asks(t, x, s.asked)
		asks(t, y, read(0, 0))
		asks(t, z, read(0, 0))
		asks(t, other, swap(8, 2, 3, 0))
		answers(t, lost, api.Answer{}, missed(1))
		answers(t, wrong, api.Answer{})
		x.Tell(s.found)
	}
	answers(t, y, api.Answer{})
	waits(t, l, api.Retired{Ref: mine, Epoch: 12})
	waits(t, m)
	goes(t, z, hardCourse()...)
	waits(t, m, api.Retired{Ref: mine, Epoch: 12})
	goes(t, y, hardCourse()...)
	waits(t, l, api.Retired{Ref: mine, Epoch: 12}, api.Retired{Ref: mine, Epoch: 12})
	goes(t, other, step{swap(8, 2, 3, 0), 3})
	won(t, other, false)
	goes(t, lost, step{put(4, 0, 0), 7})
	answers(t, lost, api.Answer{}, missed(1))
	for _, k := range []*Stopper{x, y, z} {
		answers(t, k, yes, stopped(known))
		ended(t, k)
	}
}

// 32.2 and R4: the acts that were told are the asker's own.
func TestActsAreNew(t *testing.T) {
	k := hard(nil)
	goes(t, k, hardCourse()[:10]...)
	k.Acts()[0] = api.Act{}
	_ = append(k.Acts(), api.Act{Kind: 2})
	answers(t, k, api.Answer{}, stopped(known))
	goes(t, k, hardCourse()[10:]...)
	k.Acts()[0].Step = 1
	answers(t, k, yes, stopped(known))
}

// 32.1 and 32.2: it goes on as long as Swaps find other words, again and again, and keeps nothing of that; neither is the timer taken anew, nor its key loaded, and the act stays where it was.
func TestAgainAndAgain(t *testing.T) {
	k, l := Stop(flat, 0, api.Call{Handle: 1}, nil), exampleSteps
	goes(t, k, l[:6]...)
	for n := range uint64(3000) {
		goes(t, k, step{read(14, 2), 2 * n}, step{swap(14, 2*n, 2*n+1, 2), 2*n + 2})
	}
	goes(t, k, l[6:9]...)
	for n := range uint64(3000) {
		goes(t, k, step{read(7, 0), 2}, step{read(14, 2), 1}, step{swap(7, 2, 0, 0), n*half + 1})
	}
	answers(t, k, api.Answer{}, stopped(1))
	goes(t, k, l[9:]...)
	ended(t, k)
	answers(t, k, yes, stopped(1))
}

// 32.1 and 32.2: where there is no memory each deed finds 0: so no timer is won.
func TestNoMemory(t *testing.T) {
	for _, c := range []*cells.Cells{nil, new(cells.Cells)} {
		for _, p := range allPlans() {
			k, want := Stop(p, 0, api.Call{Handle: 1}, nil), 4
			if p.Slots < 1 {
				want = 0
			}
			if l := task.Play(c, k, 99); !slices.Equal(l, make([]uint64, want)) {
				t.Fatalf("%v was found of no memory", l)
			}
			if want > 0 {
				answers(t, k, api.Answer{}, missed(1))
			} else {
				answers(t, k, api.Answer{})
			}
			i := Clear(p, nil, 2)
			if l := task.Play(c, i, 99); !slices.Equal(l, []uint64{0}) {
				t.Fatalf("%v was found of no memory", l)
			}
			won(t, i, false)
		}
	}
}

// 32.1 and 32.2: of plans that are not right, and of memories of any words, the words that there are turn as the steps say, wherever the sums put them.
func TestAnyMemory(t *testing.T) {
	r := rand.New(rand.NewSource(321))
	some := func() uint64 { return ref(uint64(r.Intn(2)), r.Intn(6)) + uint64(r.Intn(8)/7) }
	stopped, missed, under := 0, 0, 0
	for _, p := range allPlans() {
		for range 60 {
			l := make([]uint64, r.Intn(250))
			for at := range l {
				l[at] = some()
				if r.Intn(9) == 0 {
					l[at] = words[r.Intn(len(words))]
				}
			}
			index, gen := r.Intn(7), uint64(r.Intn(2))
			for slot := 1; slot < 7; slot++ {
				for at, w := range []uint64{uint64(r.Intn(2))*half + 2, uint64(r.Intn(9)), uint64(r.Intn(9)), uint64(r.Intn(5)), uint64(r.Intn(4))} {
					if at += stateAt(p, slot); at >= 0 && at < len(l) && r.Intn(3) > 0 {
						l[at] = w
					}
				}
			}
			g := job{p, ref(gen, index) + uint64(r.Intn(2))}.pair()
			if r.Intn(3) > 0 {
				g = ask{p, r.Intn(9) - 1, gen*half + word(index)}.pair()
			}
			c, other := memory(t, l), memory(t, l)
			found, want := task.Play(c, g.fast, 120), task.Play(other, g.slow, 120)
			if !slices.Equal(found, want) {
				t.Fatalf("%v was found, not %v", found, want)
			}
			stands(t, c, other.Words())
			switch {
			case g.same(t):
				under++
			case g.slow.won:
				stopped++
			default:
				missed++
			}
			g.slow.end()
		}
	}
	if stopped < 500 || missed < 500 || under < 50 {
		t.Errorf("%d were stopped, %d missed, %d are under way", stopped, missed, under)
	}
}

// member is a slot that is in chains: its reference, its key, its height, its status, how many hold it, whether it is in the chain of a level, and whether it is going out of it.
type member struct {
	ref     uint64
	key     api.Key
	tall    int
	status  uint64
	hold    uint64
	in, out [api.MaxLevels]bool
}

// less tells whether a key is less than another one, by chapter 3's sentence.
func less(x, y api.Key) bool {
	return x.Deadline < y.Deadline || x.Deadline == y.Deadline && x.Seq < y.Seq
}

// sorted sorts members by their keys, of which none is there twice.
func sorted(l []member) []member {
	slices.SortFunc(l, func(x, y member) int {
		if less(x.key, y.key) {
			return -1
		}
		return 1
	})
	return l
}

// lay lays the chains of sorted members on the words of a plan, each way on of which the slot is going out of the chain with a mark.
func lay(stand []uint64, p api.Plan, l []member) {
	for _, m := range l {
		slot := indexOf(m.ref)
		stand[deadAt(p, slot)], stand[seqAt(p, slot)], stand[tallAt(p, slot)] = word(m.key.Deadline), m.key.Seq, word(m.tall)
		stand[stateAt(p, slot)], stand[holdAt(p, slot)] = m.ref/half*half+m.status, m.hold
	}
	for h := range p.Levels {
		from, mark := 0, uint64(0)
		end := member{}
		end.in[h] = true
		for _, m := range append(slices.Clone(l), end) {
			if !m.in[h] {
				continue
			}
			stand[nextAt(p, from, h)] = m.ref + mark
			from, mark = indexOf(m.ref), 0
			if m.out[h] {
				mark = 1
			}
		}
	}
}

// walk tells those that stand in the chain of a level of a memory, from the head on, and which of them are there without a mark.
func walk(t *testing.T, stand []uint64, p api.Plan, level int) (all, staying []uint64) {
	t.Helper()
	w := stand[nextAt(p, 0, level)]
	for n := 0; w%half > 1; n++ {
		if n > p.Slots {
			t.Fatalf("the chain of the level %d does not end", level)
		}
		r := w - w%2
		w = stand[nextAt(p, indexOf(r), level)]
		all = append(all, r)
		if w%2 == 0 {
			staying = append(staying, r)
		}
	}
	return all, staying
}

// keyOf is the key of the timer in a slot of a memory.
func keyOf(stand []uint64, p api.Plan, slot int) api.Key {
	return api.Key{Deadline: int(stand[deadAt(p, slot)]), Seq: stand[seqAt(p, slot)]}
}

// rises asks whether all chains of a memory rise.
func rises(t *testing.T, stand []uint64, p api.Plan) {
	t.Helper()
	for h := range p.Levels {
		all, _ := walk(t, stand, p, h)
		for i := 1; i < len(all); i++ {
			if !less(keyOf(stand, p, indexOf(all[i-1])), keyOf(stand, p, indexOf(all[i]))) {
				t.Fatalf("the chain %v of the level %d does not rise at the place %d", all, h, i)
			}
		}
	}
}

// without asks whether a timer is in no chain of a memory.
func without(t *testing.T, stand []uint64, p api.Plan, r uint64) {
	t.Helper()
	for h := range p.Levels {
		if in, _ := walk(t, stand, p, h); slices.Contains(in, r) {
			t.Fatalf("%d is in the chain %v of the level %d", r, in, h)
		}
	}
}

// alone stops a timer, alone, where all is as chapter 18's sentence has it, and tells whether it was stopped: just if its handle's timer is live. That one is taken then, and going out of all chains below its height; if nobody else holds it, it is in none any more, and its slot waits. All others are there as they were.
func alone(t *testing.T, c *cells.Cells, q ask) bool {
	t.Helper()
	p, stand := q.plan, c.Words()
	g, other := q.pair(), memory(t, stand)
	if found, want := task.Play(c, g.fast, 9000), task.Play(other, g.slow, 9000); !slices.Equal(found, want) {
		t.Fatalf("%v was found, not %v", found, want)
	}
	if g.same(t) {
		t.Fatalf("%s does not end", g.of)
	}
	k, now := g.fast.(*Stopper), c.Words()
	stands(t, other, now)
	want := slices.Clone(stand)
	if !isKnown(p, q.handle%half) {
		stands(t, c, want)
		answers(t, k, api.Answer{})
		waits(t, g.limbo)
		return false
	}
	want[pinAt(p, q.thread)] = 0
	slot, gen := int(q.handle%half), q.handle/half
	r := ref(gen, slot)
	if stand[stateAt(p, slot)] != gen*half+2 {
		stands(t, c, want)
		answers(t, k, api.Answer{}, missed(q.handle))
		waits(t, g.limbo)
		return false
	}
	answers(t, k, yes, stopped(q.handle))
	want[stateAt(p, slot)] = gen*half + 3
	want[holdAt(p, slot)]--
	last := want[holdAt(p, slot)] == 0
	for h := range p.Levels {
		for n := range p.Slots + 1 {
			want[nextAt(p, n, h)] = now[nextAt(p, n, h)]
		}
		was, stayed := walk(t, stand, p, h)
		in, staying := walk(t, now, p, h)
		if stayed = slices.DeleteFunc(stayed, func(x uint64) bool { return x == r }); !slices.Equal(stayed, staying) {
			t.Fatalf("%v are in the chain of the level %d, not %v", staying, h, stayed)
		}
		if !last && !slices.Equal(was, in) {
			t.Fatalf("%v are in the chain of the level %d, or go out of it, not %v", in, h, was)
		}
		// Its own ways on lead where they led, those below its height with the mark.
		way := stand[nextAt(p, slot, h)]
		if h < int(stand[tallAt(p, slot)]) {
			way |= 1
		}
		if got := now[nextAt(p, slot, h)]; got != way {
			t.Fatalf("its way on of the level %d is %d, not %d", h, got, way)
		}
	}
	stands(t, c, want)
	rises(t, now, p)
	if !last {
		waits(t, g.limbo)
		return true
	}
	without(t, now, p, r)
	waits(t, g.limbo, api.Retired{Ref: r, Epoch: stand[0]})
	return true
}

// 32.3: in numbers: whatever the slot's state is, of the handle's generation, of an older one and of a newer one: just the live timer of that generation is stopped.
func TestStatesAlone(t *testing.T) {
	won := 0
	for _, p := range rightPlans() {
		for _, index := range []int{1, p.Slots} {
			for _, gen := range gens {
				for _, other := range []uint64{gen - 1, gen, gen + 1, 0, 1, lastGen} {
					for status := range uint64(4) {
						stand := made(t, p).Words()
						stand[stateAt(p, index)], stand[holdAt(p, index)], stand[tallAt(p, index)] = gen%half*half+status, 1, 1
						stand[nextAt(p, 0, 0)] = ref(gen, index)
						c := memory(t, stand)
						if got := alone(t, c, ask{p, p.Threads - 1, other%half*half + word(index)}); got != (status == 2 && other == gen) {
							t.Fatalf("a stop of %d in the state %d.%d: %v", other, gen, status, got)
						} else if got {
							won++
						}
					}
				}
			}
		}
	}
	if won < 300 {
		t.Errorf("%d were stopped", won)
	}
}

// triples are keys that rise, of all edges.
var triples = [][3]api.Key{
	{{Deadline: 4, Seq: 4}, {Deadline: 5, Seq: 3}, {Deadline: 6, Seq: 2}},
	{{Deadline: 0, Seq: 0}, {Deadline: 0, Seq: 1}, {Deadline: 0, Seq: most}},
	{{Deadline: least, Seq: 0}, {Deadline: least, Seq: most}, {Deadline: least + 1, Seq: 0}},
	{{Deadline: maxTime, Seq: 0}, {Deadline: maxTime, Seq: 1<<63 - 1}, {Deadline: maxTime, Seq: 1 << 63}},
	{{Deadline: 0, Seq: most}, {Deadline: maxTime, Seq: 0}, {Deadline: greatest, Seq: most}},
	{{Deadline: least, Seq: most}, {Deadline: -1, Seq: 7}, {Deadline: 0, Seq: 0}},
}

// 32.3: done alone, in all chains of two other slots and two levels that the chapters tell apart (in each chain, not in it, going out of it), in both orders, of a timer that stands first, between them, and last; of the heights 1, 2, more than there are levels, and 0; that somebody else holds, or nobody; and that is not live.
func TestAloneInAllSmallChains(t *testing.T) {
	// Of two levels, from the lower one on: in the chain (1), going out of it (2), or not in it (0). Whoever stays in the higher one stays in the lower one too.
	ways := [][2]int{{0, 0}, {2, 0}, {0, 2}, {2, 2}, {1, 0}, {1, 2}, {1, 1}}
	// Its own: how high it is, in how many chains it is, how many hold it, and its status.
	owns := []struct {
		tall, in     int
		hold, status uint64
	}{{1, 1, 1, 2}, {2, 2, 1, 2}, {3, 2, 1, 2}, {greatest, 2, 1, 2}, {0, 0, 1, 2}, {least, 0, 1, 2}, {2, 1, 2, 2}, {2, 2, 2, 2}, {1, 1, 2, 2}, {2, 2, 1, 3}, {2, 1, 2, 1}, {1, 1, 2, 3}, {0, 0, 1, 0}}
	for n := range 3 * 98 {
		way, place := n/2%49, n/98
		slots := []int{n%3 + 1, (n+1)%3 + 1, (n+2)%3 + 1}
		if n%2 == 1 {
			slices.Reverse(slots)
		}
		for i, one := range owns {
			l, keys := make([]member, 3), triples[(n+i)%len(triples)]
			some := slices.Insert([]int{way / 7, way % 7}, place, 0)
			for j := range l {
				l[j] = member{ref: ref(uint64(j)*lastGen/2, slots[j]), key: keys[j], tall: 2, status: 2, hold: 1}
				if j == place {
					l[j].tall, l[j].status, l[j].hold = one.tall, one.status, one.hold
					for h := range one.in {
						l[j].in[h] = true
					}
					continue
				}
				for h, state := range ways[some[j]] {
					l[j].in[h], l[j].out[h] = state != 0, state == 2
					if state == 2 {
						l[j].status = 3
					}
				}
			}
			for turn := range uint64(3) {
				stand, r := made(t, small).Words(), l[place].ref
				lay(stand, small, l)
				stand[0], stand[4], stand[5] = words[n%len(words)], words[i], 1
				gen := (r/half + turn) % half
				if got := alone(t, memory(t, stand), ask{small, n % 2, gen*half + r%half/2}); got != (one.status == 2 && turn == 0) {
					t.Fatalf("a stop of %+v: %v", one, got)
				}
			}
		}
	}
}

// anyMember is a member of chance, of a slot: live, and in all chains below its height; live, and just being brought in, so that two hold it; or taken, and going out of chains from above, in the mean in one of so many cases.
func anyMember(r *rand.Rand, p api.Plan, slot, outs int) member {
	tall := 1 + r.Intn(p.Levels)
	m := member{ref: ref([]uint64{0, 1, uint64(r.Uint32()), lastGen}[r.Intn(4)], slot), tall: tall, status: 2, hold: 1}
	switch {
	case r.Intn(outs) == 0:
		stay := r.Intn(tall + 1)
		m.status, m.hold = 3, uint64(r.Intn(3))
		for h := range tall {
			m.out[h] = h >= stay
			m.in[h] = h < stay || r.Intn(3) > 0
		}
		return m
	case r.Intn(3) == 0:
		m.hold = 2
		tall = 1 + r.Intn(tall)
	}
	for h := range tall {
		m.in[h] = true
	}
	return m
}

// newKey makes a key that none of members has.
func newKey(r *rand.Rand, l []member) api.Key {
	for {
		k := api.Key{Deadline: r.Intn(9) - 4, Seq: uint64(r.Intn(20))}
		if r.Intn(4) == 0 {
			k = api.Key{Deadline: deadlines[r.Intn(len(deadlines))], Seq: seqs[r.Intn(len(seqs))]}
		}
		if !slices.ContainsFunc(l, func(m member) bool { return m.key == k }) {
			return k
		}
	}
}

// 32.3: done alone, in chains of chance of all right plans, with no other slot, with one and with many, with none going out, with some, and with all, by any thread, of any slot, of its generation, and of others: what is stopped is stopped once, and others stay.
func TestAloneInChainsOfChance(t *testing.T) {
	r := rand.New(rand.NewSource(323))
	won, lost := 0, 0
	for _, p := range rightPlans() {
		for _, outs := range []int{1, 2, 5, 1 << 30} {
			for range 6 {
				stand := made(t, p).Words()
				stand[0], stand[2], stand[3] = words[r.Intn(len(words))], words[r.Intn(len(words))], words[r.Intn(len(words))]
				var l []member
				for n := range p.Slots {
					if r.Intn(8) == 0 {
						stand[stateAt(p, n+1)] = uint64(r.Uint32())*half + uint64(r.Intn(2))
						for h := range p.Levels {
							stand[nextAt(p, n+1, h)] = anyWord(r)
						}
						continue
					}
					m := anyMember(r, p, n+1, outs)
					m.key = newKey(r, l)
					l = append(l, m)
				}
				lay(stand, p, sorted(l))
				for thread := range p.Threads {
					stand[pinAt(p, thread)] = words[r.Intn(4)]
				}
				c := memory(t, stand)
				for range min(p.Slots+1, 9) {
					slot := 1 + r.Intn(p.Slots)
					h := stand[stateAt(p, slot)]/half*half + word(slot)
					switch r.Intn(8) {
					case 0:
						h += half
					case 1:
						h = anyHandle(r, p)
					}
					if alone(t, c, ask{p, r.Intn(p.Threads), h}) {
						won++
					} else {
						lost++
					}
				}
			}
		}
	}
	if won < 800 || lost < 800 {
		t.Errorf("%d were stopped, %d were not", won, lost)
	}
}

// 32.3: from the beginning on timers are started, and all are stopped, one behind the other, in any order: each one once; those that are left stand where they stood; in the end all chains are empty, and each slot waits once.
func TestOneBehindTheOther(t *testing.T) {
	r := rand.New(rand.NewSource(324))
	for _, p := range rightPlans() {
		for range 3 {
			c := made(t, p)
			c.Store(2, words[r.Intn(len(words))])
			var handles []uint64
			for n := range p.Slots {
				handles = append(handles, begin(t, c, p, n%p.Threads, []int{r.Intn(4), maxTime, 9 + n}[r.Intn(3)], r.Uint64()%512))
			}
			for n, i := range r.Perm(p.Slots) {
				for try := range 2 {
					if alone(t, c, ask{p, n % p.Threads, handles[i]}) != (try == 0) {
						t.Fatalf("%d is stopped at the try %d", handles[i], try)
					}
					if alone(t, c, ask{p, n % p.Threads, handles[i] + half}) {
						t.Fatalf("%d is stopped, which no timer has", handles[i]+half)
					}
				}
				for h := range p.Levels {
					if in, staying := walk(t, c.Words(), p, h); len(in) != len(staying) || h == 0 && len(in) != p.Slots-1-n {
						t.Fatalf("%v are in the chain of the level %d behind %d", in, h, n)
					}
				}
			}
			for h := range p.Levels {
				if w := c.Load(nextAt(p, 0, h)); w != 0 {
					t.Fatalf("the chain of the level %d begins with %d", h, w)
				}
			}
		}
	}
}

// 32.3: in numbers: timers that stand first, in the midst and last, and at last the only one, are stopped: the ways on of the lowest chain lead past each.
func TestPlacesInTheChain(t *testing.T) {
	p := api.Plan{Threads: 1, Slots: 5, Levels: 2}
	c, l := made(t, p), limbo.New()
	for n := range 5 {
		begin(t, c, p, 0, 10*n, uint64(n%2))
	}
	for i, row := range []struct {
		slot  int
		chain []uint64 // the slots, from the head on
		high  []uint64 // the same of the higher level
	}{
		{1, []uint64{2, 3, 4, 5}, []uint64{2, 4}},
		{5, []uint64{2, 3, 4}, []uint64{2, 4}},
		{3, []uint64{2, 4}, []uint64{2, 4}},
		{4, []uint64{2}, []uint64{2}},
		{2, nil, nil},
	} {
		k := Stop(p, 0, api.Call{Kind: 2, Handle: word(row.slot)}, l)
		task.Play(c, k, 99)
		answers(t, k, yes, stopped(word(row.slot)))
		for h, want := range [][]uint64{row.chain, row.high} {
			all, staying := walk(t, c.Words(), p, h)
			for i, r := range all {
				all[i] = r / 2
			}
			if !slices.Equal(all, want) || len(staying) != len(all) {
				t.Fatalf("%v are in the chain of the level %d, not %v", all, h, want)
			}
		}
		if c.Load(stateAt(p, row.slot)) != 3 || c.Load(holdAt(p, row.slot)) != 0 || l.Len() != i+1 {
			t.Fatalf("the state is %d, it is held by %d, and %v wait", c.Load(stateAt(p, row.slot)), c.Load(holdAt(p, row.slot)), l.All())
		}
	}
	waits(t, l, api.Retired{Ref: 2, Epoch: 1}, api.Retired{Ref: 10, Epoch: 1}, api.Retired{Ref: 6, Epoch: 1}, api.Retired{Ref: 8, Epoch: 1}, api.Retired{Ref: 4, Epoch: 1})
}

// 32.1 and 32.2: a timer is stopped while it is started: behind each of the starter's steps, and going on behind each of the stopper's own. It is stopped just if it began to live ahead of that; the slot is retired once then, into the limbo of who lets go last, and the timer is in no chain, while the others stay.
func TestStoppedWhileItIsStarted(t *testing.T) {
	p := api.Plan{Threads: 2, Slots: 3, Levels: 2}
	stand := made(t, p)
	for n := range 2 {
		begin(t, stand, p, 0, 4+2*n, 1)
	}
	r := ref(0, 3)
	byStarter, byStopper := 0, 0
	for n := range 45 {
		for m := range 45 {
			c, l, g := memory(t, stand.Words()), limbo.New(), ask{p, 1, 3}.pair()
			s, k := start.Start(p, 0, api.Call{Deadline: 5, Draw: 1}, l), g.fast.(*Stopper)
			g.slow.end()
			task.Play(c, s, n)
			live := len(s.Acts()) > 0 && m > 2
			task.Play(c, k, m)
			c.Store(0, 50)
			task.Play(c, s, 99)
			task.Play(c, k, 99)
			ended(t, k)
			if m < 3 {
				// It went on behind the whole start.
				live = true
			}
			one, other := l.All(), g.limbo.All()
			if !live {
				answers(t, k, api.Answer{}, missed(3))
				if len(one)+len(other) > 0 || c.Load(stateAt(p, 3)) != 2 || c.Load(holdAt(p, 3)) != 1 {
					t.Fatalf("%v and %v wait, though it is live, at %d and %d", one, other, n, m)
				}
				continue
			}
			answers(t, k, yes, stopped(3))
			if len(one)+len(other) != 1 || append(one, other...)[0].Ref != r {
				t.Fatalf("%v and %v wait, at %d and %d", one, other, n, m)
			}
			byStarter += len(one)
			byStopper += len(other)
			without(t, c.Words(), p, r)
			for h := range 2 {
				if in, staying := walk(t, c.Words(), p, h); !slices.Equal(in, []uint64{2, 4}) || len(staying) != 2 {
					t.Fatalf("%v are in the chain of the level %d", in, h)
				}
			}
		}
	}
	if byStarter < 20 || byStopper < 100 {
		t.Errorf("%d were retired by the starter, %d by the stopper", byStarter, byStopper)
	}
}

// 32.1 to 32.3: two stop one timer, and somebody starts another one beside it, in all orders of their first steps: just one of the two wins, the one that came first, and retires the slot; the other one has missed, and changes nothing.
func TestTwoInAllOrders(t *testing.T) {
	p := api.Plan{Threads: 3, Slots: 3, Levels: 1}
	stand := made(t, p)
	begin(t, stand, p, 0, 4, 0)
	h := begin(t, stand, p, 0, 6, 0)
	var first [2]int
	for n := range 6561 {
		c := memory(t, stand.Words())
		now := []*pair{ask{p, 0, h}.pair(), ask{p, 1, h}.pair()}
		other := start.Start(p, 2, api.Call{Deadline: 5}, nil)
		winner, left, done := -1, n, [3]bool{}
		for at := 0; at < 8 || done != [3]bool{true, true, true}; at++ {
			who := at % 3
			if at < 8 {
				who = left % 3
				left /= 3
			}
			if who == 2 {
				done[2] = len(task.Play(c, other, 1)) == 0
				continue
			}
			g := now[who]
			d, l := g.slow.now, task.Play(c, g.fast, 1)
			if done[who] = len(l) == 0; done[who] {
				continue
			}
			g.slow.Tell(l[0])
			g.same(t)
			if d.Kind == 3 && d.At == stateAt(p, 2) && winner < 0 {
				winner = who
			}
		}
		for who, g := range now {
			want, act, retired := api.Answer{}, missed(h), 0
			if who == winner {
				want, act, retired = yes, stopped(h), 1
			}
			answers(t, g.fast.(*Stopper), want, act)
			if g.limbo.Len() != retired {
				t.Fatalf("%v wait, in the order %d", g.limbo.All(), n)
			}
			g.slow.end()
		}
		first[winner]++
		if in, staying := walk(t, c.Words(), p, 0); !slices.Equal(in, []uint64{2, 6}) || len(staying) != 2 {
			t.Fatalf("%v are in the chain, in the order %d", in, n)
		}
	}
	if first[0] < 1000 || first[1] < 1000 {
		t.Errorf("%v of the two came first", first)
	}
}

// turn is a thread's call under way: a stop, which is held against its tale, or a start.
type turn struct {
	stop  *pair
	start *start.Starter
	limbo *limbo.Limbo
}

// 32.1 to 32.3: calls of all threads by turns, which start timers and stop them, old handles and handles that no timer has among them, each stop held against its tale: each act stands where the state of its slot turns; no timer is stopped twice; those that nobody stopped are live in the end, in all chains below their heights, and of those that somebody stopped each one is retired once.
func TestInTurns(t *testing.T) {
	r := rand.New(rand.NewSource(325))
	won, lost, byStarter := 0, 0, 0
	for _, p := range rightPlans() {
		for range 4 {
			c, now := made(t, p), make([]*turn, p.Threads)
			var handles []uint64
			ended, gone := map[uint64]bool{}, map[uint64]int{}
			still, till := 0, 0
			for n, left, tries := 0, p.Slots, 2*p.Slots+4; ; n++ {
				thread := r.Intn(p.Threads)
				if thread == still && n < till && p.Threads > 1 {
					continue
				}
				one := now[thread]
				switch {
				case one == nil && left > 0 && r.Intn(3) == 0:
					left--
					l := limbo.New()
					now[thread] = &turn{start: start.Start(p, thread, api.Call{Deadline: r.Intn(6), Draw: r.Uint64() % 64}, l), limbo: l}
				case one == nil && tries > 0 && r.Intn(3) == 0:
					tries--
					g := ask{p, thread, anyOf(r, p, handles)}.pair()
					now[thread] = &turn{stop: g, limbo: g.limbo}
				case one == nil && left+tries == 0 && !slices.ContainsFunc(now, func(one *turn) bool { return one != nil }):
					won += len(ended)
					stayed(t, c.Words(), p, handles, ended, gone)
					goto next
				case one == nil:
				case one.start != nil:
					acts := len(one.start.Acts())
					if len(task.Play(c, one.start, 1)) == 0 {
						now[thread] = nil
						byStarter += one.limbo.Len()
						count(gone, one.limbo)
					} else if l := one.start.Acts(); len(l) > acts {
						handles = append(handles, l[0].Handle)
						// Some stand still as soon as their timers live, so that others may stop them ahead of their letting go.
						if r.Intn(2) == 0 {
							still, till = thread, n+60*p.Threads
						}
					}
				default:
					g := one.stop
					d, k := g.slow.now, g.fast.(*Stopper)
					acts := len(k.Acts())
					if l := task.Play(c, k, 1); len(l) > 0 {
						g.slow.Tell(l[0])
					}
					more := g.same(t)
					if l := k.Acts(); len(l) > acts {
						h := l[0].Handle
						live := slices.Contains(handles, h) && !ended[h]
						if d != swap(stateAt(p, int(h%half)), h/half*half+2, h/half*half+3, 0) || live != (l[0].Kind == 3) {
							t.Fatalf("%+v was done at %+v, while it lives: %v", l[0], d, live)
						}
						if live {
							ended[h] = true
						} else {
							lost++
						}
					}
					if !more {
						now[thread] = nil
						count(gone, one.limbo)
						g.slow.end()
					}
				}
			}
		next:
		}
	}
	if won < 1000 || lost < 500 || byStarter < 50 {
		t.Errorf("%d were stopped, %d missed; %d were retired by their starters", won, lost, byStarter)
	}
}

// count counts how often each slot waits in a limbo.
func count(gone map[uint64]int, l *limbo.Limbo) {
	for _, one := range l.All() {
		gone[one.Ref]++
	}
}

// anyOf is one of some handles by chance, mostly the last one; or one that no timer has.
func anyOf(r *rand.Rand, p api.Plan, handles []uint64) uint64 {
	switch {
	case len(handles) == 0 || r.Intn(8) == 0:
		return anyHandle(r, p)
	case r.Intn(3) > 0:
		return handles[len(handles)-1]
	}
	return handles[r.Intn(len(handles))]
}

// stayed asks whether, when all have ended, of all timers that were started those that were stopped are retired once, and just the others are live, and in the chains below their heights, without a mark, each held by one.
func stayed(t *testing.T, stand []uint64, p api.Plan, handles []uint64, ended map[uint64]bool, gone map[uint64]int) {
	t.Helper()
	want := make([][]uint64, p.Levels)
	if len(handles) != p.Slots {
		t.Fatalf("%d timers were started of %d", len(handles), p.Slots)
	}
	for _, h := range handles {
		slot := int(h % half)
		x := ref(h/half, slot)
		state, hold, retired := h/half*half+2, uint64(1), 0
		if ended[h] {
			state, hold, retired = state+1, 0, 1
		}
		if stand[stateAt(p, slot)] != state || stand[holdAt(p, slot)] != hold || gone[x] != retired {
			t.Fatalf("the state of %d is %d, it is held by %d, and was retired %d times", h, stand[stateAt(p, slot)], stand[holdAt(p, slot)], gone[x])
		}
		for level := range int(stand[tallAt(p, slot)]) {
			if !ended[h] {
				want[level] = append(want[level], x)
			}
		}
	}
	for level := range want {
		all, staying := walk(t, stand, p, level)
		slices.Sort(all)
		slices.Sort(want[level])
		if !slices.Equal(all, want[level]) || len(staying) != len(all) {
			t.Fatalf("%v are in the chain of the level %d, not %v", all, level, want[level])
		}
	}
	rises(t, stand, p)
}
