package task

import (
	"iter"
	"math"
	"math/rand"
	"slices"
	"testing"

	"sundial/api"
	"sundial/cells"
)

// Deeds by their kinds, for short.
func load(at int) api.Deed            { return api.Deed{Kind: api.Load, At: at} }
func store(at int, w uint64) api.Deed { return api.Deed{Kind: api.Store, At: at, A: w} }
func add(at int, n uint64) api.Deed   { return api.Deed{Kind: api.Add, At: at, A: n} }
func swap(at int, old, w uint64) api.Deed {
	return api.Deed{Kind: api.Swap, At: at, A: old, B: w}
}

// words are the edges of a word.
var words = []uint64{0, 1, 2, 5, 1<<31 - 1, 1 << 31, 1<<32 - 1, 1 << 32, 1<<63 - 1, 1 << 63, math.MaxUint64 - 1, math.MaxUint64}

// ints are the edges of a number with a sign, and small ones.
var ints = []int{math.MinInt, math.MinInt + 1, math.MinInt32, -1 << 32, -2, -1, 0, 1, 2, 3, 4, 5, 6, 64, 4095, 4096, 4097, math.MaxInt32, 1 << 32, 1<<32 + 1, math.MaxInt - 1, math.MaxInt}

// odd are deeds of no kind, and deeds of all kinds at places that there are not.
var odd = []api.Deed{
	{}, {Kind: -1, At: 0, A: 7}, {Kind: 5, At: 1, A: 7, B: 8, By: 9}, {Kind: math.MinInt, At: 1}, {Kind: math.MaxInt, At: 0, A: 1}, {Kind: 1<<32 + 2, At: 0, A: 3},
	load(-1), load(3), load(math.MaxInt), store(-1, 7), store(3, 7), store(math.MinInt, 7), add(3, 7), add(-2, 7), swap(3, 0, 7), swap(-1, 0, 7), swap(1<<32, 0, 7),
}

// loads tells n loads, each of another place.
func loads(n int) []api.Deed {
	var l []api.Deed
	for at := range n {
		l = append(l, load(at))
	}
	return l
}

// memory makes a memory of the words of l.
func memory(t *testing.T, l ...uint64) *cells.Cells {
	t.Helper()
	c, err := cells.Of(l)
	if err != api.OK {
		t.Fatalf("a memory of %d words: %d", len(l), err)
	}
	return c
}

// asks asks whether a task asks for d, again and again.
func asks(t *testing.T, k Task, d api.Deed) {
	t.Helper()
	for range 3 {
		if got, more := k.Next(); got != d || !more {
			t.Fatalf("%+v is asked for (%v), not %+v", got, more, d)
		}
	}
}

// done asks whether a task is done, and goes on to nothing when it is told something.
func done(t *testing.T, k Task) {
	t.Helper()
	for _, found := range []uint64{0, 7, math.MaxUint64} {
		if got, more := k.Next(); got != (api.Deed{}) || more {
			t.Fatalf("%+v is asked for (%v) by a task that is done", got, more)
		}
		k.Tell(found)
	}
	if got, more := k.Next(); got != (api.Deed{}) || more {
		t.Fatalf("a task that is done went on to %+v (%v)", got, more)
	}
}

// runs asks whether a task asks for the deeds of l, one behind the other, and then for none; it is told 0, 1, 2 and so on.
func runs(t *testing.T, k Task, l ...api.Deed) {
	t.Helper()
	for i, d := range l {
		asks(t, k, d)
		k.Tell(uint64(i))
	}
	done(t, k)
}

// found asks whether a script was told just the words of l.
func found(t *testing.T, s *Script, l ...uint64) {
	t.Helper()
	if got := s.Found(); !slices.Equal(got, l) {
		t.Fatalf("found are %v, not %v", got, l)
	}
}

// flow makes a flow to k, which counts in n how often it was called behind it.
func flow(k Task, n *int) *Flow {
	f := &Flow{}
	f.To(k, func() { *n++ })
	return f
}

// endless is a task that asks for one deed for ever; it is no pointer, and is not held against anything, its list being in the way.
type endless struct {
	deed []api.Deed
	told *[]uint64
}

func (e endless) Next() (api.Deed, bool) { return e.deed[0], true }
func (e endless) Tell(found uint64)      { *e.told = append(*e.told, found) }

// 11.3, and the chapter's example.
func TestExample(t *testing.T) {
	c := memory(t, 5)
	s := NewScript([]api.Deed{add(0, 1), add(0, 1), load(0)})
	if l := Play(c, s, 3); !slices.Equal(l, []uint64{5, 6, 7}) {
		t.Errorf("found are %v", l)
	}
	found(t, s, 5, 6, 7)
	done(t, s)
	if c.Load(0) != 7 {
		t.Errorf("the word is %d", c.Load(0))
	}
}

// 11.1: a script asks for its deeds in order, whatever they are, and keeps what it was told, step by step.
func TestScript(t *testing.T) {
	for _, l := range [][]api.Deed{{load(4)}, {load(1), load(1)}, {store(1, 2), load(3), add(4, 5), swap(6, 7, 8), {Kind: api.Swap, At: 9, A: 10, B: 11, By: 12}}, odd, loads(1000)} {
		s := NewScript(l)
		var told []uint64
		for i, d := range l {
			asks(t, s, d)
			found(t, s, told...)
			w := words[i%len(words)]
			s.Tell(w)
			told = append(told, w)
			found(t, s, told...)
		}
		done(t, s)
		found(t, s, told...)
	}
}

// 11.1: a script of no deed is done; what it is told is not kept.
func TestScriptOfNoDeed(t *testing.T) {
	for _, l := range [][]api.Deed{nil, {}} {
		s := NewScript(l)
		if s == nil {
			t.Fatalf("no script of no deed")
		}
		found(t, s)
		done(t, s)
		found(t, s)
	}
}

// 11.1: a script that was told fewer than it asks for goes on where it is; of more, those behind its last deed are not kept.
func TestScriptToldFewerAndMore(t *testing.T) {
	for n := range 5 {
		for m := range 9 {
			s := NewScript(loads(n))
			var want []uint64
			for i := range m {
				s.Tell(uint64(i) + 50)
				if i < n {
					want = append(want, uint64(i)+50)
				}
			}
			found(t, s, want...)
			if m < n {
				asks(t, s, load(m))
			} else {
				done(t, s)
			}
			found(t, s, want...)
		}
	}
}

// 11.1: a script is told ahead of being asked, and goes on all the same.
func TestTellAheadOfNext(t *testing.T) {
	s := NewScript(loads(3))
	s.Tell(9)
	s.Tell(8)
	asks(t, s, load(2))
	found(t, s, 9, 8)
	n := 0
	f := flow(NewScript(loads(3)), &n)
	f.Tell(9)
	f.Tell(8)
	asks(t, f, load(2))
	f.Tell(7)
	done(t, f)
	if n != 1 {
		t.Errorf("what comes behind was called %d times", n)
	}
}

// 11.1, 11.2 and R7: tasks that are nil, or that no call made, are done, and tell nothing.
func TestTasksThatNoCallMade(t *testing.T) {
	var s *Script
	var f *Flow
	for _, k := range []Task{s, &Script{}, f, &Flow{}} {
		done(t, k)
		if l := Play(memory(t, 1), k, 5); len(l) != 0 {
			t.Errorf("%v was found by a task that no call made", l)
		}
	}
	found(t, s)
	found(t, &Script{})
	n := 0
	f.To(NewScript(loads(2)), func() { n++ })
	f.To(nil, func() { n++ })
	f.To(nil, nil)
	done(t, f)
	if n != 0 {
		t.Errorf("a nil flow went on %d times", n)
	}
}

// 11.1 and R4: a script keeps none of the list that it was handed, and changes none.
func TestScriptKeepsNoList(t *testing.T) {
	array := loads(5)
	s := NewScript(array[:3])
	s.Tell(1)
	for i := range array {
		array[i] = store(i, 9)
	}
	asks(t, s, load(1))
	s.Tell(2)
	asks(t, s, load(2))
	s.Tell(3)
	done(t, s)
	for i, d := range array {
		if d != store(i, 9) {
			t.Errorf("the deed %d that was handed in became %+v", i, d)
		}
	}
}

// 11.1 and R4: what Found told stays, and what is done to it changes no script and no other list.
func TestFoundIsNotKept(t *testing.T) {
	s := NewScript(loads(9))
	for i := range 5 {
		s.Tell(uint64(i))
	}
	told, again := s.Found(), s.Found()
	for i := range told {
		told[i] = 77
	}
	told = append(told, 78)
	found(t, s, 0, 1, 2, 3, 4)
	s.Tell(5)
	if told[5] != 78 || !slices.Equal(again, []uint64{0, 1, 2, 3, 4}) {
		t.Errorf("what was told became %v and %v", told, again)
	}
	_ = append(again, 79)
	found(t, s, 0, 1, 2, 3, 4, 5)
}

// 11.1: two scripts of one list don't touch one another.
func TestScriptsAreApart(t *testing.T) {
	l := loads(2)
	a, b := NewScript(l), NewScript(l)
	a.Tell(4)
	asks(t, a, load(1))
	asks(t, b, load(0))
	found(t, a, 4)
	found(t, b)
}

// 11.2: a flow asks for what its task asks for, hands on what it is told, and calls what comes behind once, as soon as the task is done.
func TestFlow(t *testing.T) {
	for size := 1; size < 5; size++ {
		s, n := NewScript(loads(size)), 0
		f := flow(s, &n)
		for i := range size {
			if n != 0 {
				t.Fatalf("ahead of the deed %d of %d it was gone on", i, size)
			}
			asks(t, f, load(i))
			f.Tell(uint64(i) + 9)
			if got := s.Found(); len(got) != i+1 || got[i] != uint64(i)+9 {
				t.Fatalf("the task was told %v", got)
			}
		}
		if n != 1 {
			t.Fatalf("behind %d deeds it was gone on %d times", size, n)
		}
		done(t, f)
		if n != 1 || len(s.Found()) != size {
			t.Fatalf("a flow that is done went on %d times, and its task was told %v", n, s.Found())
		}
	}
}

// 11.2: a flow behind whose task nothing comes is done with it.
func TestFlowWithNothingBehind(t *testing.T) {
	f := &Flow{}
	for _, k := range []Task{nil, NewScript(nil), (*Script)(nil), &Flow{}} {
		f.To(k, nil)
		done(t, f)
	}
	f.To(NewScript(loads(3)), nil)
	runs(t, f, loads(3)...)
}

// 11.2: a flow goes on at once to what comes behind a task that is nil or done already: To answers behind it.
func TestFlowToATaskThatIsDone(t *testing.T) {
	told := NewScript(loads(2))
	told.Tell(1)
	told.Tell(2)
	for i, k := range []Task{nil, NewScript(nil), told, &Script{}, (*Script)(nil), &Flow{}, (*Flow)(nil), Behind(nil, nil)} {
		n := 0
		f := flow(k, &n)
		if n != 1 {
			t.Errorf("behind the task %d it was gone on %d times", i, n)
		}
		done(t, f)
		if n != 1 {
			t.Errorf("behind the task %d it was gone on %d times in the end", i, n)
		}
	}
	found(t, told, 1, 2)
}

// 11.2: a flow goes on with a task that was told of some of its deeds, where that is.
func TestFlowToATaskThatWasTold(t *testing.T) {
	for size := 1; size < 5; size++ {
		for ahead := range size {
			s, n := NewScript(loads(size)), 0
			for i := range ahead {
				s.Tell(uint64(i))
			}
			f := flow(s, &n)
			if n != 0 {
				t.Fatalf("it was gone on ahead of the deed %d of %d", ahead, size)
			}
			runs(t, f, loads(size)[ahead:]...)
			if n != 1 || len(s.Found()) != size {
				t.Fatalf("of %d of %d deeds: gone on %d times, %v told", ahead, size, n, s.Found())
			}
		}
	}
}

// 11.2: where somebody else tells the task of a flow, the flow is where that task is; when it is done, it is gone on, once.
func TestFlowWhoseTaskSomebodyElseTold(t *testing.T) {
	for _, ask := range []bool{true, false} {
		s, n := NewScript(loads(3)), 0
		f := &Flow{}
		f.To(s, func() {
			n++
			f.To(NewScript([]api.Deed{load(7), load(8)}), nil)
		})
		s.Tell(1)
		asks(t, f, load(1))
		f.Tell(2)
		asks(t, f, load(2))
		s.Tell(3)
		found(t, s, 1, 2, 3)
		if ask {
			asks(t, f, load(7))
		}
		f.Tell(4)
		runs(t, f, load(8))
		if n != 1 {
			t.Fatalf("it was gone on %d times", n)
		}
	}
}

// 11.2: what comes behind gives the flow another task, once.
func TestFlowGoesOnOnce(t *testing.T) {
	first, second, log := NewScript(loads(2)), NewScript([]api.Deed{store(5, 6)}), ""
	f := &Flow{}
	f.To(first, func() {
		log += "a"
		f.To(second, func() { log += "b" })
		log += "c"
	})
	asks(t, f, load(0))
	f.Tell(10)
	f.Tell(11)
	if log != "ac" {
		t.Fatalf("%q behind the first task", log)
	}
	asks(t, f, store(5, 6))
	found(t, first, 10, 11)
	found(t, second)
	f.Tell(12)
	if log != "acb" {
		t.Fatalf("%q behind the second task", log)
	}
	done(t, f)
	found(t, first, 10, 11)
	found(t, second, 12)
	if log != "acb" {
		t.Fatalf("%q in the end", log)
	}
}

// 11.2: what comes behind gives the flow another task, over and over, tasks that are done at once among them: all deeds come one behind the other.
func TestFlowGoesOnOverAndOver(t *testing.T) {
	r := rand.New(rand.NewSource(11))
	for round := range 300 {
		var scripts []*Script
		var want []api.Deed
		for range r.Intn(12) {
			size := max(0, r.Intn(6)-2)
			var l []api.Deed
			for range size {
				l = append(l, load(len(want)+len(l)))
			}
			scripts, want = append(scripts, NewScript(l)), append(want, l...)
		}
		f, n := &Flow{}, 0
		var next func()
		next = func() {
			if n++; n <= len(scripts) {
				f.To(scripts[n-1], next)
			}
		}
		next()
		runs(t, f, want...)
		if n != len(scripts)+1 {
			t.Fatalf("round %d: of %d tasks it was gone on %d times", round, len(scripts), n)
		}
		var told []uint64
		for _, s := range scripts {
			told = append(told, s.Found()...)
		}
		for i, w := range told {
			if w != uint64(i) || len(told) != len(want) {
				t.Fatalf("round %d: the tasks were told %v", round, told)
			}
		}
	}
}

// 11.2: what comes behind calls To for a task that is done: what comes behind that is called at once, ahead of To's answer.
func TestFlowGoesOnAtOnceWithinWhatComesBehind(t *testing.T) {
	for _, k := range []Task{nil, NewScript(nil), &Flow{}} {
		log := ""
		f := &Flow{}
		f.To(NewScript(loads(1)), func() {
			log += "a"
			f.To(k, func() {
				log += "b"
				f.To(k, func() { log += "c" })
				log += "d"
			})
			log += "e"
			f.To(k, func() { log += "f" })
			log += "g"
			f.To(NewScript([]api.Deed{load(5)}), func() { log += "h" })
			log += "i"
		})
		f.Tell(0)
		if log != "abcdefgi" {
			t.Fatalf("the order is %q", log)
		}
		runs(t, f, load(5))
		if log != "abcdefgih" {
			t.Fatalf("the order is %q in the end", log)
		}
	}
}

// 11.2 and R1: a great many tasks that are done at once end, one behind the other, and the flow goes on behind them; and so again.
func TestFlowOfManyTasksThatAreDone(t *testing.T) {
	const many = 5000000
	f := &Flow{}
	for range 2 {
		n := 0
		var next func()
		next = func() {
			if n++; n < many {
				f.To(nil, next)
			} else {
				f.To(NewScript(loads(2)), func() { n++ })
			}
		}
		f.To(NewScript(nil), next)
		runs(t, f, loads(2)...)
		if n != many+1 {
			t.Errorf("it was gone on %d times", n)
		}
	}
}

// 11.2 and R1: as many tasks as the bound lets be within one another are gone on from at once.
func TestFlowIsDeep(t *testing.T) {
	f, n, behind := &Flow{}, 0, 0
	var next func()
	next = func() {
		if n++; n == 1<<16 {
			return
		}
		f.To(nil, next)
		if n != 1<<16 {
			t.Fatalf("only %d tasks are gone on from ahead of To's answer", n)
		}
		behind++
	}
	f.To(nil, next)
	if n != 1<<16 || behind != 1<<16-1 {
		t.Errorf("it was gone on %d times, %d of them came back", n, behind)
	}
}

// 11.2: while what comes behind is called, and till it gives another task, the flow is done.
func TestFlowIsAskedByWhatComesBehind(t *testing.T) {
	f, n := &Flow{}, 0
	f.To(NewScript(loads(1)), func() {
		n++
		done(t, f)
		f.To(NewScript(loads(3)), func() { n++ })
		asks(t, f, load(0))
		f.Tell(5)
		asks(t, f, load(1))
	})
	f.Tell(4)
	asks(t, f, load(1))
	f.Tell(6)
	asks(t, f, load(2))
	f.Tell(7)
	done(t, f)
	if n != 2 {
		t.Errorf("it was gone on %d times", n)
	}
}

// 11.2: a flow that is done is given another task, again and again, and goes on with each.
func TestFlowThatIsDoneIsGivenAnotherTask(t *testing.T) {
	n := 0
	f := flow(NewScript(loads(2)), &n)
	runs(t, f, loads(2)...)
	for i := range 5 {
		f.To(NewScript([]api.Deed{load(i), load(9)}), func() { n++ })
		if n != i+1 {
			t.Fatalf("%d tasks ended, not %d", n, i+1)
		}
		runs(t, f, load(i), load(9))
	}
	f.To(nil, func() { n++ })
	done(t, f)
	if n != 7 {
		t.Errorf("it was gone on %d times", n)
	}
	f = Behind(loads(1), loads(2))
	runs(t, f, load(0), load(0), load(1))
	f.To(NewScript(loads(1)), nil)
	runs(t, f, load(0))
}

// 11.2: a flow that is given another task ahead of the end of the first is that one from now on; nothing comes behind the first.
func TestFlowIsGivenAnotherTaskAheadOfTheEnd(t *testing.T) {
	first, n, m := NewScript(loads(3)), 0, 0
	f := flow(first, &n)
	f.Tell(1)
	f.To(NewScript([]api.Deed{load(8)}), func() { m++ })
	runs(t, f, load(8))
	found(t, first, 1)
	asks(t, first, load(1))
	first.Tell(2)
	first.Tell(3)
	done(t, f)
	if n != 0 || m != 1 {
		t.Errorf("%d and %d times", n, m)
	}
	f = flow(NewScript(loads(3)), &n)
	f.To(nil, nil)
	done(t, f)
	if n != 0 {
		t.Errorf("the first one was gone on from %d times", n)
	}
}

// 11.2: a flow is a task of a flow; what comes behind the inner one is called ahead of what comes behind the outer one.
func TestFlowOfAFlow(t *testing.T) {
	inner, outer, log := &Flow{}, &Flow{}, ""
	inner.To(NewScript(loads(1)), func() {
		log += "a"
		inner.To(NewScript([]api.Deed{load(1)}), func() { log += "b" })
	})
	outer.To(inner, func() {
		log += "c"
		outer.To(Behind([]api.Deed{load(2)}, []api.Deed{load(3)}), func() { log += "d" })
	})
	runs(t, outer, loads(4)...)
	done(t, inner)
	if log != "abcd" {
		t.Errorf("the order is %q", log)
	}
	deep, n := Task(NewScript(loads(2))), 0
	for range 1000 {
		deep = flow(deep, &n)
	}
	runs(t, deep, loads(2)...)
	if n != 1000 {
		t.Errorf("it was gone on %d times", n)
	}
}

// 11.2: what comes behind an inner task may give the outer flow another task.
func TestFlowIsGivenATaskFromWithin(t *testing.T) {
	for _, somebody := range []bool{false, true} {
		s, inner, outer, log := NewScript(loads(1)), &Flow{}, &Flow{}, ""
		inner.To(s, func() {
			log += "a"
			inner.To(NewScript([]api.Deed{load(6)}), func() { log += "x" })
			outer.To(NewScript([]api.Deed{load(5)}), func() { log += "b" })
		})
		outer.To(inner, func() { log += "y" })
		if somebody {
			s.Tell(0)
		} else {
			outer.Tell(0)
		}
		asks(t, outer, load(5))
		outer.Tell(1)
		done(t, outer)
		asks(t, inner, load(6))
		if log != "ab" {
			t.Errorf("the order is %q", log)
		}
	}
}

// 11.2: what comes behind an inner task, which somebody else told, may take the outer flow's task away.
func TestFlowLosesItsTaskFromWithin(t *testing.T) {
	s, inner, outer := NewScript(loads(1)), &Flow{}, &Flow{}
	inner.To(s, func() {
		outer.To(nil, nil)
		inner.To(NewScript(loads(3)), nil)
	})
	outer.To(inner, func() { t.Errorf("it was gone on from a task that it has no more") })
	s.Tell(0)
	outer.Tell(1)
	done(t, outer)
	asks(t, inner, load(0))
}

// 11.2 and R1: a flow that would be part of itself ends.
func TestFlowWithinItself(t *testing.T) {
	n := 0
	f := &Flow{}
	f.To(f, func() { n++ })
	done(t, f)
	if n != 1 {
		t.Errorf("behind itself it was gone on %d times", n)
	}
	f.To(NewScript(loads(2)), nil)
	f.To(f, nil)
	done(t, f)
	f.To(NewScript(loads(1)), func() { f.To(f, func() { f.To(NewScript(loads(1)), nil) }) })
	runs(t, f, load(0), load(0))

	a, b, c := &Flow{}, &Flow{}, &Flow{}
	c.To(NewScript(loads(2)), nil)
	b.To(c, nil)
	a.To(b, func() { n++ })
	asks(t, a, load(0))
	c.To(a, nil)
	for _, k := range []Task{a, b, c} {
		done(t, k)
	}
	if l := Play(memory(t, 1), a, 9); len(l) != 0 || n != 2 {
		t.Errorf("%v found, gone on %d times", l, n)
	}
	b.To(NewScript(loads(1)), nil)
	runs(t, b, load(0))
}

// 11.2: a flow of which what comes behind panics is done, and can be given another task, and so as often as one likes.
func TestFlowBehindAPanic(t *testing.T) {
	f := &Flow{}
	for range 1<<16 + 1 {
		func() {
			defer func() {
				if recover() == nil {
					t.Fatalf("nothing panicked")
				}
			}()
			f.To(nil, func() { panic("behind") })
		}()
	}
	done(t, f)
	n := 0
	f.To(nil, func() { n++ })
	f.To(NewScript(loads(1)), func() { n++ })
	runs(t, f, load(0))
	if n != 2 {
		t.Errorf("it was gone on %d times", n)
	}
}

// 11.2: a flow takes any task, also one that is no pointer, and one that never ends.
func TestFlowOfAnotherTask(t *testing.T) {
	var told []uint64
	n := 0
	f := flow(endless{deed: []api.Deed{add(0, 2)}, told: &told}, &n)
	for i := range 100 {
		asks(t, f, add(0, 2))
		f.Tell(uint64(i))
	}
	if n != 0 || len(told) != 100 || told[99] != 99 {
		t.Errorf("gone on %d times, %d told", n, len(told))
	}
}

// 11.2: Behind asks for the deeds of the first list, then for those of the second, be they empty or not.
func TestBehind(t *testing.T) {
	for n := range 5 {
		for m := range 5 {
			var second []api.Deed
			for i := range m {
				second = append(second, add(i, 7))
			}
			f := Behind(loads(n), second)
			if f == nil {
				t.Fatalf("no flow of %d and %d deeds", n, m)
			}
			runs(t, f, append(loads(n), second...)...)
		}
	}
	runs(t, Behind(nil, []api.Deed{}))
	runs(t, Behind([]api.Deed{}, nil))
	runs(t, Behind(odd, odd), append(slices.Clone(odd), odd...)...)
	l := loads(3)
	runs(t, Behind(l[:2], l[1:]), load(0), load(1), load(1), load(2))
}

// 11.2 and R4: Behind keeps none of the lists that it was handed, and changes none.
func TestBehindKeepsNoList(t *testing.T) {
	array := loads(6)
	f := Behind(array[:2], array[2:4])
	for i := range array {
		array[i] = store(i, 9)
	}
	runs(t, f, loads(4)...)
	for i, d := range array {
		if d != store(i, 9) {
			t.Errorf("the deed %d that was handed in became %+v", i, d)
		}
	}
}

// 11.3: Play does just as many deeds as there are, or as it is let do, and leaves the others for later.
func TestPlayDoesAtMost(t *testing.T) {
	for n := range 5 {
		for _, most := range append(ints, n-1, n, n+1) {
			c, s := memory(t, 10), NewScript(slices.Repeat([]api.Deed{add(0, 1)}, n))
			got := Play(c, s, most)
			count := min(n, max(0, most))
			if len(got) != count || c.Load(0) != 10+uint64(count) {
				t.Fatalf("of %d deeds, at most %d: %v found, %d stands", n, most, got, c.Load(0))
			}
			for i, w := range got {
				if w != 10+uint64(i) {
					t.Fatalf("of %d deeds, at most %d: %v found", n, most, got)
				}
			}
			found(t, s, got...)
			rest := Play(c, s, 99)
			if len(rest) != n-count || c.Load(0) != 10+uint64(n) {
				t.Fatalf("of %d deeds, behind %d: %v found, %d stands", n, count, rest, c.Load(0))
			}
			found(t, s, append(slices.Clone(got), rest...)...)
			done(t, s)
		}
	}
}

// 11.3: a task that never ends is played as far as it is let.
func TestPlayOfATaskWithoutEnd(t *testing.T) {
	for _, most := range []int{-1, 0, 1, 2, 1000} {
		var told []uint64
		c := memory(t, 0)
		l := Play(c, endless{deed: []api.Deed{add(0, 3)}, told: &told}, most)
		if len(l) != max(0, most) || !slices.Equal(l, told) || c.Load(0) != 3*uint64(len(l)) {
			t.Errorf("at most %d: %d found, %d told, %d stands", most, len(l), len(told), c.Load(0))
		}
	}
}

// 11.3: a nil task, and one that is done, is played to nothing, whatever the memory, and changes none.
func TestPlayOfNoTask(t *testing.T) {
	over := NewScript(loads(1))
	over.Tell(4)
	for _, k := range []Task{nil, (*Script)(nil), &Script{}, (*Flow)(nil), &Flow{}, over, Behind(nil, nil)} {
		for _, most := range ints {
			c := memory(t, 1, 2)
			if l, other := Play(c, k, most), Play(nil, k, most); len(l) != 0 || len(other) != 0 || !slices.Equal(c.Words(), []uint64{1, 2}) {
				t.Errorf("at most %d of no task: %v, %v found, %v stand", most, l, other, c.Words())
			}
		}
	}
	found(t, over, 4)
}

// 11.3: of a nil memory, and of one of no words, each deed finds 0, and the task is told so.
func TestPlayOfNoMemory(t *testing.T) {
	l := append([]api.Deed{load(0), store(0, 5), add(0, 6), load(0), swap(0, 0, 7), {Kind: api.Swap, At: 0, By: 9}}, odd...)
	for _, c := range []*cells.Cells{nil, memory(t), new(cells.Cells)} {
		s := NewScript(l)
		if got := Play(c, s, 3); !slices.Equal(got, []uint64{0, 0, 0}) {
			t.Errorf("%v found in no memory", got)
		}
		if got := Play(c, s, len(l)); !slices.Equal(got, make([]uint64, len(l)-3)) {
			t.Errorf("%v found in no memory", got)
		}
		found(t, s, make([]uint64, len(l))...)
		done(t, s)
	}
}

// 11.3: deeds of no kind, and at places that there are not, count as the others do, find 0, and change nothing.
func TestPlayOfOddDeeds(t *testing.T) {
	for n := range len(odd) + 1 {
		c, s := memory(t, 4, 5, 6), NewScript(odd)
		if got := Play(c, s, n); !slices.Equal(got, make([]uint64, n)) || !slices.Equal(c.Words(), []uint64{4, 5, 6}) {
			t.Errorf("of %d odd deeds %v found, %v stand", n, got, c.Words())
		}
		found(t, s, make([]uint64, n)...)
	}
	c := memory(t, 4, 5, 6)
	if got := Play(c, NewScript([]api.Deed{load(0), {}, add(1, 1), store(3, 9), load(1)}), 9); !slices.Equal(got, []uint64{4, 0, 5, 0, 6}) {
		t.Errorf("%v found", got)
	}
}

// 11.2 and 11.3: a flow that is played does the deeds of its tasks one behind the other, in one Play or in several.
func TestPlayOfAFlow(t *testing.T) {
	for most := 1; most < 7; most++ {
		c, n := memory(t, 5, 1), 0
		f := flow(Behind([]api.Deed{add(0, 1), add(0, 1)}, []api.Deed{load(0), swap(1, 1, 8), load(1)}), &n)
		var got []uint64
		for {
			l := Play(c, f, most)
			if got = append(got, l...); len(l) == 0 {
				break
			}
		}
		if !slices.Equal(got, []uint64{5, 6, 7, 1, 8}) || n != 1 {
			t.Errorf("%d at a time: %v found, gone on %d times", most, got, n)
		}
	}
}

// 11.3 and R4: what Play told stays, and what is done to it changes no task and no memory.
func TestWhatPlayToldIsNotKept(t *testing.T) {
	c, s := memory(t, 5, 6, 7, 8), NewScript(loads(4))
	first := Play(c, s, 2)
	first[0] = 77
	first = append(first, 78)
	second := Play(c, s, 2)
	second[1] = 79
	if !slices.Equal(first, []uint64{77, 6, 78}) || !slices.Equal(second, []uint64{7, 79}) {
		t.Errorf("what was told became %v and %v", first, second)
	}
	found(t, s, 5, 6, 7, 8)
	if !slices.Equal(c.Words(), []uint64{5, 6, 7, 8}) {
		t.Errorf("the memory became %v", c.Words())
	}
}

// 11.3: Steps, ranged over to its end, tells each deed and what was found by it; each is done and told to the task by then, and none behind it.
func TestSteps(t *testing.T) {
	l := []api.Deed{add(0, 1), store(1, 9), swap(0, 6, 3), {}, swap(0, 6, 4), load(7), load(1)}
	wants := []uint64{5, 2, 6, 0, 3, 0, 9}
	after := [][]uint64{{6, 2}, {6, 9}, {3, 9}, {3, 9}, {3, 9}, {3, 9}, {3, 9}}
	c, s, i := memory(t, 5, 2), NewScript(l), 0
	for d, w := range Steps(c, s) {
		if d != l[i] || w != wants[i] || !slices.Equal(c.Words(), after[i]) {
			t.Fatalf("step %d: %+v found %d, %v stand", i, d, w, c.Words())
		}
		found(t, s, wants[:i+1]...)
		i++
	}
	if i != len(l) {
		t.Fatalf("%d steps of %d", i, len(l))
	}
	done(t, s)
}

// 11.3: Steps, left at each deed, does none that is behind it; ranged over again, by the same function or another one, it goes on there.
func TestStepsLeftAndRangedOverAgain(t *testing.T) {
	const size = 5
	for stop := 1; stop <= size; stop++ {
		for _, same := range []bool{true, false} {
			c, s, n := memory(t, 0), NewScript(slices.Repeat([]api.Deed{add(0, 1)}, size)), 0
			steps := Steps(c, s)
			if c.Load(0) != 0 || len(s.Found()) != 0 {
				t.Fatalf("something was done ahead of being asked for")
			}
			for range steps {
				if n++; n == stop {
					break
				}
			}
			if c.Load(0) != uint64(stop) || len(s.Found()) != stop {
				t.Fatalf("left at %d: %d deeds done, %v told", stop, c.Load(0), s.Found())
			}
			if !same {
				steps = Steps(c, s)
			}
			for d, w := range steps {
				if d != add(0, 1) || w != uint64(n) {
					t.Fatalf("left at %d: %+v found %d behind %d", stop, d, w, n)
				}
				n++
			}
			for range steps {
				t.Fatalf("a step behind the last one")
			}
			if n != size || c.Load(0) != size {
				t.Fatalf("left at %d: %d deeds of %d, %d done", stop, n, size, c.Load(0))
			}
			found(t, s, 0, 1, 2, 3, 4)
		}
	}
}

// 11.3: Steps asks the task anew at each deed, so it may be played from within, or by two in turns.
func TestStepsInTurns(t *testing.T) {
	c, s := memory(t, 0), NewScript(slices.Repeat([]api.Deed{add(0, 1)}, 7))
	var got []uint64
	for _, w := range Steps(c, s) {
		got = append(got, w)
		got = append(got, Play(c, s, 1)...)
		for _, w := range Steps(c, s) {
			got = append(got, w)
			break
		}
	}
	if !slices.Equal(got, []uint64{0, 1, 2, 3, 4, 5, 6}) {
		t.Errorf("%v found", got)
	}
}

// 11.3: Steps of a nil task, of one that is done, and in a nil memory.
func TestStepsOfNothing(t *testing.T) {
	for _, k := range []Task{nil, (*Script)(nil), &Script{}, (*Flow)(nil), &Flow{}, Behind(nil, nil)} {
		for _, c := range []*cells.Cells{nil, memory(t, 3)} {
			for d, w := range Steps(c, k) {
				t.Errorf("%+v found %d", d, w)
			}
		}
	}
	s, i := NewScript(append(loads(3), odd...)), 0
	for d, w := range Steps(nil, s) {
		if i < 3 && d != load(i) || i >= 3 && d != odd[i-3] || w != 0 {
			t.Fatalf("%+v found %d in a nil memory", d, w)
		}
		i++
	}
	found(t, s, make([]uint64, 3+len(odd))...)
}

// 11.3: of a task that never ends Steps goes on as long as it is asked.
func TestStepsOfATaskWithoutEnd(t *testing.T) {
	var told []uint64
	c := memory(t, 0)
	for _, w := range Steps(c, endless{deed: []api.Deed{add(0, 1)}, told: &told}) {
		if w == 500 {
			break
		}
	}
	if len(told) != 501 || c.Load(0) != 501 {
		t.Errorf("%d told, %d stands", len(told), c.Load(0))
	}
}

// slow does a deed to words by the sentences of chapters 6 and 7, and tells what was found.
func slow(l []uint64, d api.Deed) uint64 {
	if d.At < 0 || d.At >= len(l) || d.Kind < 1 || d.Kind > 4 {
		return 0
	}
	was := l[d.At]
	switch {
	case d.Kind == 2:
		l[d.At] = d.A
	case d.Kind == 3 && was == d.A:
		l[d.At] = d.B
	case d.Kind == 4:
		l[d.At] += d.A
	}
	return was
}

// chance tells n deeds of chance to words of which there are so many.
func chance(r *rand.Rand, n, size int) []api.Deed {
	var l []api.Deed
	for range n {
		d := api.Deed{Kind: r.Intn(5), At: r.Intn(size+2) - 1, A: words[r.Intn(4)], B: words[r.Intn(len(words))], By: uint64(r.Intn(2))}
		if r.Intn(20) == 0 {
			d.Kind, d.At = ints[r.Intn(len(ints))], ints[r.Intn(len(ints))]
		}
		l = append(l, d)
	}
	return l
}

// 11.4: a script that is played, in one Play, in several, by Steps, or behind another one, finds what its deeds find, done one behind the other.
func TestWhatIsPlayedIsFound(t *testing.T) {
	r := rand.New(rand.NewSource(12))
	ways := []func(c *cells.Cells, l []api.Deed) []uint64{
		func(c *cells.Cells, l []api.Deed) []uint64 { return Play(c, NewScript(l), len(l)) },
		func(c *cells.Cells, l []api.Deed) []uint64 { return Play(c, NewScript(l), math.MaxInt) },
		func(c *cells.Cells, l []api.Deed) []uint64 {
			s := NewScript(l)
			for range l {
				Play(c, s, r.Intn(3))
			}
			Play(c, s, len(l))
			return s.Found()
		},
		func(c *cells.Cells, l []api.Deed) []uint64 { return ranged(Steps(c, NewScript(l))) },
		func(c *cells.Cells, l []api.Deed) []uint64 {
			cut := r.Intn(len(l) + 1)
			return Play(c, Behind(l[:cut], l[cut:]), len(l))
		},
	}
	for range 500 {
		size := r.Intn(4)
		start, l := make([]uint64, size), chance(r, r.Intn(30), size)
		for at := range start {
			start[at] = words[r.Intn(4)]
		}
		stands := slices.Clone(start)
		var want []uint64
		for _, d := range l {
			want = append(want, slow(stands, d))
		}
		for i, way := range ways {
			c := memory(t, start...)
			if got := way(c, l); !slices.Equal(got, want) || !slices.Equal(c.Words(), stands) {
				t.Fatalf("way %d, %+v of %v: %v found, %v stand, not %v, %v", i, l, start, got, c.Words(), want, stands)
			}
		}
	}
}

// ranged tells all that was found.
func ranged(steps iter.Seq2[api.Deed, uint64]) []uint64 {
	var l []uint64
	for _, w := range steps {
		l = append(l, w)
	}
	return l
}

// acted asks whether a ledger has just these acts, again and again.
func acted(t *testing.T, l *Ledger, want ...api.Act) {
	t.Helper()
	for range 2 {
		if got := l.Acts(); !slices.Equal(got, want) {
			t.Fatalf("acts are %+v, not %+v", got, want)
		}
	}
}

// 11.5: acts ahead of the first deed, one at a deed, several at one, and deeds without any, in numbers.
func TestLedger(t *testing.T) {
	l := &Ledger{}
	acted(t, l)
	l.Note(api.ActMiss, 7, 0)
	l.Note(api.ActFull, 0, 0)
	l.Step()
	l.Step()
	l.Note(api.ActStart, 4, 50)
	acted(t, l, api.Act{Kind: 4, Handle: 7}, api.Act{Kind: 5}, api.Act{Kind: 1, Handle: 4, Deadline: 50, Step: 2})
	l.Step()
	l.Note(api.ActTake, 5, 60)
	l.Note(api.ActTake, 5, 60)
	l.Note(api.ActStop, 6, -70)
	l.Step()
	acted(t, l,
		api.Act{Kind: 4, Handle: 7}, api.Act{Kind: 5}, api.Act{Kind: 1, Handle: 4, Deadline: 50, Step: 2},
		api.Act{Kind: 2, Handle: 5, Deadline: 60, Step: 3}, api.Act{Kind: 2, Handle: 5, Deadline: 60, Step: 3}, api.Act{Kind: 3, Handle: 6, Deadline: -70, Step: 3})
}

// 11.5: an act keeps its three, whatever they are, each by itself.
func TestLedgerKeepsWhatItIsHanded(t *testing.T) {
	l := &Ledger{}
	var want []api.Act
	for i, n := range ints {
		for j, w := range words {
			l.Step()
			deadline := ints[(i+j+1)%len(ints)]
			l.Note(n, w, deadline)
			want = append(want, api.Act{Kind: n, Handle: w, Deadline: deadline, Step: len(want) + 1})
		}
	}
	acted(t, l, want...)
}

// 11.5: deeds without an act are counted, and tell nothing.
func TestLedgerWithoutANote(t *testing.T) {
	l := &Ledger{}
	for range 1000 {
		l.Step()
		acted(t, l)
	}
	l.Note(1, 2, 3)
	acted(t, l, api.Act{Kind: 1, Handle: 2, Deadline: 3, Step: 1000})
}

// 11.5: a nil ledger keeps nothing, and one that no call made has none.
func TestNoLedger(t *testing.T) {
	var l *Ledger
	for range 3 {
		l.Step()
		l.Note(1, 2, 3)
		acted(t, l)
	}
	acted(t, &Ledger{})
	acted(t, new(Ledger))
}

// 11.5 and R4: what Acts told stays, and what is done to it changes no ledger and no other list.
func TestWhatActsToldIsNotKept(t *testing.T) {
	l := &Ledger{}
	var want []api.Act
	for i := range 5 {
		l.Step()
		l.Note(i, 1, 2)
		want = append(want, api.Act{Kind: i, Handle: 1, Deadline: 2, Step: i + 1})
	}
	told, again := l.Acts(), l.Acts()
	for i := range told {
		told[i] = api.Act{}
	}
	told = append(told, api.Act{Kind: 9})
	acted(t, l, want...)
	l.Note(6, 7, 8)
	if told[5] != (api.Act{Kind: 9}) || !slices.Equal(again, want) {
		t.Errorf("what was told became %+v and %+v", told, again)
	}
	_ = append(again, api.Act{Kind: 10})
	acted(t, l, append(want, api.Act{Kind: 6, Handle: 7, Deadline: 8, Step: 5})...)
}

// 11.5: two ledgers count each for itself.
func TestLedgersAreApart(t *testing.T) {
	var a, b Ledger
	a.Step()
	a.Note(1, 2, 3)
	b.Step()
	b.Step()
	b.Note(4, 5, 6)
	acted(t, &a, api.Act{Kind: 1, Handle: 2, Deadline: 3, Step: 1})
	acted(t, &b, api.Act{Kind: 4, Handle: 5, Deadline: 6, Step: 2})
}

// starter is a task as higher layers have it: a flow and a ledger in one, which counts the flow's deeds.
type starter struct {
	Flow
	Ledger
}

func (s *starter) Tell(found uint64) {
	s.Step()
	s.Flow.Tell(found)
}

// 11.2 and 11.5: a flow and a ledger, embedded in one task: what comes behind a part notes its act at the part's last deed.
func TestFlowAndLedgerInOne(t *testing.T) {
	s := &starter{}
	s.To(NewScript(loads(2)), func() {
		s.Note(api.ActStart, 1, 10)
		s.To(Behind(loads(1), loads(2)), func() { s.Note(api.ActTake, 2, 20) })
	})
	if got := Play(memory(t, 7, 8), s, 99); !slices.Equal(got, []uint64{7, 8, 7, 7, 8}) {
		t.Errorf("%v found", got)
	}
	done(t, &s.Flow)
	acted(t, &s.Ledger, api.Act{Kind: 1, Handle: 1, Deadline: 10, Step: 2}, api.Act{Kind: 2, Handle: 2, Deadline: 20, Step: 5})
}
