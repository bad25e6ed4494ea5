package mark

import (
	"math"
	"math/rand"
	"slices"
	"testing"

	"sundial/api"
	"sundial/blank"
	"sundial/cells"
	"sundial/lift"
	"sundial/link"
	"sundial/mint"
	"sundial/plan"
	"sundial/refer"
	"sundial/seek"
	"sundial/task"
)

// half is how often a lower half goes into a word: a word is its high half times half, and its low half.
const half = 4294967296

// lastGen and lastIndex are the greatest generation and index that a reference has.
const (
	lastGen   = 4294967295
	lastIndex = 2147483647
)

// words are the edges of a word.
var words = []uint64{0, 1, 2, 3, 4, 5, 6, 7, 128, 129, 130, 131, 1<<31 - 1, 1 << 31, half - 2, half - 1, half, half + 1, half + 2, half + 3, 1<<63 - 1, 1 << 63, 1<<63 + 1, 1<<63 + 2, lastGen * half, lastGen*half + 1, lastGen*half + 2, math.MaxUint64 - 1, math.MaxUint64}

// talls are the edges of a height.
var talls = []int{math.MinInt, math.MinInt + 1, -1 << 32, -1<<32 + 1, -9, -8, -2, -1, 0, 1, 2, 3, 4, 5, 7, 8, 9, 64, 1 << 31, 1 << 32, 1<<32 + 1, math.MaxInt - 1, math.MaxInt}

// small and three are plans of which the head's ways on stand from 7 on; of small the slots' ways on stand from 15, 23 and 31 on, of three from 16, 25 and 34 on.
var (
	small = api.Plan{Threads: 1, Slots: 3, Levels: 2}
	three = api.Plan{Threads: 1, Slots: 3, Levels: 3}
)

// a and b are references to the slots 1 and 2, and am and bm those with the mark; mine is one to the slot 3, of which the ways on are marked.
const (
	a    = 5*half + 2
	am   = 5*half + 3
	b    = 7*half + 4
	bm   = 7*half + 5
	mine = 9*half + 6
)

// rightPlans are such of which each number is the least, one between, or the greatest.
func rightPlans() []api.Plan {
	var l []api.Plan
	for _, threads := range []int{1, 3, 8} {
		for _, slots := range []int{1, 2, 5, 64} {
			for _, levels := range []int{1, 2, 3, 4, 8} {
				l = append(l, api.Plan{Threads: threads, Slots: slots, Levels: levels, Gen: []uint64{0, 1, lastGen}[len(l)%3]})
			}
		}
	}
	return l
}

// wrongPlans are those of which one number alone is none that there is, and those of which several are.
func wrongPlans() []api.Plan {
	l := []api.Plan{{}, {Threads: -1, Slots: -1, Levels: -1}, {Threads: 9, Slots: 65, Levels: 9, Gen: half}, {Threads: math.MaxInt, Slots: math.MaxInt, Levels: math.MaxInt, Gen: math.MaxUint64}, {Threads: math.MinInt, Slots: math.MinInt, Levels: math.MinInt}}
	for _, n := range []int{math.MinInt, math.MinInt + 1, -1<<32 + 2, -64, -1, 0, 9, 65, 1000, 1 << 31, 1<<32 + 2, math.MaxInt - 1, math.MaxInt} {
		l = append(l, api.Plan{Threads: n, Slots: 3, Levels: 3}, api.Plan{Threads: 2, Slots: n, Levels: 3}, api.Plan{Threads: 2, Slots: 3, Levels: n})
	}
	for _, gen := range []uint64{half, half + 1, 1 << 63, math.MaxUint64} {
		l = append(l, api.Plan{Threads: 2, Slots: 3, Levels: 3, Gen: gen})
	}
	return l
}

// allPlans are those that are right, and those that are not.
func allPlans() []api.Plan {
	return append(rightPlans(), wrongPlans()...)
}

// ref puts a reference together.
func ref(gen uint64, index int) uint64 { return gen*half + 2*uint64(index) }

// indexOf tells the index of a reference.
func indexOf(r uint64) int { return int(r % half / 2) }

// nextAt tells by chapter 8's sums where a slot's way on at a level stands, the head's of the slot 0.
func nextAt(p api.Plan, slot, level int) int {
	if slot == 0 {
		return 4 + 3*p.Threads + level
	}
	return 4 + 3*p.Threads + p.Levels + (slot-1)*(6+p.Levels) + 6 + level
}

// marked tells a word with the mark.
func marked(w uint64) uint64 { return w - w%2 + 1 }

// Deeds by their kinds, for short.
func read(at int, by uint64) api.Deed { return api.Deed{Kind: 1, At: at, By: by} }
func swap(at int, old, w, by uint64) api.Deed {
	return api.Deed{Kind: 3, At: at, A: old, B: w, By: by}
}

// job is what Mark is asked.
type job struct {
	plan api.Plan
	ref  uint64
	tall int
}

// mark makes the marker of a job.
func (j job) mark() *Marker { return Mark(j.plan, j.ref, j.tall) }

// levels tells how many levels a job goes through.
func (j job) levels() int {
	switch {
	case j.tall <= 0 || j.plan.Levels <= 0:
		return 0
	case j.tall < j.plan.Levels:
		return j.tall
	}
	return j.plan.Levels
}

// tale is what a Mark comes to by the chapter's sentences.
type tale struct {
	asked []api.Deed // one behind the other; the last one is asked for still, if it is not over
	over  bool       // whether it is done
	level int        // at which it is
	again int        // how often it came to step 1 anew
}

// tale tells by the chapter's sentences what a job comes to, when it is told l.
func (j job) tale(l []uint64) (out tale) {
	told := 0
	ask := func(d api.Deed) (uint64, bool) {
		out.asked = append(out.asked, d)
		if told == len(l) {
			return 0, false
		}
		told++
		return l[told-1], true
	}
	for h := j.levels() - 1; h >= 0; {
		out.level = h
		own := nextAt(j.plan, indexOf(j.ref), h)
		w, ok := ask(read(own, j.ref))
		if !ok {
			return out
		}
		if w%2 == 1 {
			h--
			continue
		}
		found, ok := ask(swap(own, w, w+1, j.ref))
		if !ok {
			return out
		}
		if found == w {
			h--
			continue
		}
		out.again++
	}
	out.over = true
	return out
}

// slow does a Load or a Swap of chapter 7 to words, and tells what was found.
func slow(stand []uint64, d api.Deed) uint64 {
	if d.At < 0 || d.At >= len(stand) {
		return 0
	}
	was := stand[d.At]
	if d.Kind == 3 && was == d.A {
		stand[d.At] = d.B
	}
	return was
}

// asks asks whether a marker asks for d, again and again.
func asks(t *testing.T, k *Marker, d api.Deed) {
	t.Helper()
	for range 3 {
		if got, more := k.Next(); got != d || !more {
			t.Fatalf("%+v is asked for (%v), not %+v", got, more, d)
		}
	}
}

// ended asks whether a marker is done, and stays so whatever it is told.
func ended(t *testing.T, k *Marker) {
	t.Helper()
	for _, found := range []uint64{0, 1, a, am, 88, 0, 0, math.MaxUint64, math.MaxUint64 - 1, 0} {
		if got, more := k.Next(); got != (api.Deed{}) || more {
			t.Fatalf("%+v is asked for (%v) by a task that is done", got, more)
		}
		k.Tell(found)
	}
	if got, more := k.Next(); got != (api.Deed{}) || more {
		t.Fatalf("a task that is done went on to %+v (%v)", got, more)
	}
}

// step is a deed that is asked for, and what is told then.
type step struct {
	asked api.Deed
	found uint64
}

// goes asks whether a marker asks for the deeds of l, and has found these then.
func goes(t *testing.T, k *Marker, l []step) {
	t.Helper()
	for _, s := range l {
		asks(t, k, s.asked)
		k.Tell(s.found)
	}
}

// marks asks whether a job's marker asks for the deeds of l, and is done then.
func marks(t *testing.T, j job, l ...step) {
	t.Helper()
	k := j.mark()
	goes(t, k, l)
	ended(t, k)
}

// same asks whether a job's marker that was told l stands where the chapter's sentences say.
func same(t *testing.T, k *Marker, j job, l []uint64) tale {
	t.Helper()
	want := j.tale(l)
	got, more := k.Next()
	if more == want.over || want.over && got != (api.Deed{}) || more && got != want.asked[len(want.asked)-1] {
		t.Fatalf("Mark of %+v, told %v, asks for %+v (%v), not as %+v", j, l, got, more, want)
	}
	return want
}

// made makes the memory at the beginning of a right plan.
func made(t *testing.T, p api.Plan) *cells.Cells {
	t.Helper()
	c, err := blank.Make(p)
	if err != api.OK {
		t.Fatalf("no memory of %+v: %d", p, err)
	}
	return c
}

// memory makes a memory of words.
func memory(t *testing.T, l []uint64) *cells.Cells {
	t.Helper()
	c, err := cells.Of(l)
	if err != api.OK {
		t.Fatal(err)
	}
	return c
}

// stands asks whether a memory has just these words.
func stands(t *testing.T, c *cells.Cells, l []uint64) {
	t.Helper()
	if got := c.Words(); !slices.Equal(got, l) {
		t.Fatalf("%v stand, not %v", got, l)
	}
}

// row is a list of n words w.
func row(n int, w uint64) []uint64 { return slices.Repeat([]uint64{w}, n) }

// 22.1: the chapter's example, in numbers and done alone; and of each number of levels and each height at the beginning.
func TestExamples(t *testing.T) {
	marks(t, job{small, mine, 2}, step{read(32, mine), 0}, step{swap(32, 0, 1, mine), 0}, step{read(31, mine), 0}, step{swap(31, 0, 1, mine), 0})
	marks(t, job{small, mine, 1}, step{read(31, mine), a}, step{swap(31, a, am, mine), a})
	for _, p := range rightPlans() {
		for tall := 1; tall <= p.Levels; tall++ {
			c := made(t, p)
			stand, r := c.Words(), ref(p.Gen, p.Slots)
			k := Mark(p, r, tall)
			if l := task.Play(c, k, 99); !slices.Equal(l, row(2*tall, 0)) {
				t.Fatalf("%v was found at the beginning of %+v, of the height %d", l, p, tall)
			}
			ended(t, k)
			for h := range tall {
				stand[nextAt(p, p.Slots, h)] = 1
			}
			stands(t, c, stand)
			if l := task.Play(c, Mark(p, r, tall), 99); !slices.Equal(l, row(tall, 1)) {
				t.Fatalf("%v was found where all is marked", l)
			}
			stands(t, c, stand)
		}
	}
}

// 22.1: each deed in the names of api's, of layer 2 and of layer 8.
func TestDeedsByName(t *testing.T) {
	p := api.Plan{Threads: 2, Slots: 3, Levels: 4, Gen: 9}
	x, y, r := refer.Of(3, 1), refer.Of(4, 3), refer.Of(5, 2)
	marks(t, job{p, r, 3},
		step{api.Deed{Kind: api.Load, At: plan.Next(p, 2, 2), By: r}, x},
		step{api.Deed{Kind: api.Swap, At: plan.Next(p, 2, 2), A: x, B: refer.Mark(x), By: r}, y},
		step{api.Deed{Kind: api.Load, At: plan.Next(p, 2, 2), By: r}, y},
		step{api.Deed{Kind: api.Swap, At: plan.Next(p, 2, 2), A: y, B: refer.Mark(y), By: r}, y},
		step{api.Deed{Kind: api.Load, At: plan.Next(p, 2, 1), By: r}, refer.Mark(y)},
		step{api.Deed{Kind: api.Load, At: plan.Next(p, 2, 0), By: r}, 0},
		step{api.Deed{Kind: api.Swap, At: plan.Next(p, 2, 0), B: refer.Mark(0), By: r}, 0})
}

// 22.1: of no level, of fewer, and of a height that is 0 or less, it is done at once, whatever it is asked else, and changes nothing.
func TestNothingToDo(t *testing.T) {
	refs := append([]uint64{a, am, mine, mine + 1, ref(lastGen, lastIndex)}, words...)
	for _, p := range allPlans() {
		for _, tall := range talls {
			if tall > 0 && p.Levels > 0 {
				continue
			}
			for _, r := range refs {
				marks(t, job{p, r, tall})
			}
		}
	}
	for _, levels := range []int{math.MinInt, math.MinInt + 1, -1 << 62, -1 << 32, -1<<32 + 1, -9, -1, 0} {
		for _, tall := range talls {
			marks(t, job{api.Plan{Threads: 2, Slots: 5, Levels: levels}, mine, tall})
		}
	}
	c := made(t, small)
	stand := c.Words()
	for _, tall := range []int{0, -1, math.MinInt} {
		if l := task.Play(c, Mark(small, mine, tall), 9); len(l) != 0 {
			t.Fatalf("%v was found of the height %d", l, tall)
		}
	}
	stands(t, c, stand)
}

// 22.1: it begins at the highest level that is below the height and that the plan has, and goes down to 0, each level having its own place; of very many levels the first ones.
func TestLevels(t *testing.T) {
	for _, p := range allPlans() {
		for _, tall := range talls {
			j := job{p, mine, tall}
			k, levels := j.mark(), j.levels()
			for n := range min(levels, 70) {
				at, w := nextAt(p, 3, levels-1-n), ref(uint64(n), n%5)
				goes(t, k, []step{{read(at, mine), w}, {swap(at, w, w+1, mine), w}})
			}
			if levels <= 70 {
				ended(t, k)
			}
		}
	}
}

// 22.1: of more levels than there may be it goes through as many as the plan says, if that is so high.
func TestMoreLevelsThanThereMayBe(t *testing.T) {
	for _, levels := range []int{9, 64, 1000, 70000} {
		for _, tall := range []int{levels - 1, levels, levels + 1, math.MaxInt} {
			j := job{api.Plan{Threads: 1, Slots: 3, Levels: levels}, mine, tall}
			k := j.mark()
			for h := j.levels() - 1; h >= 0; h-- {
				at := nextAt(j.plan, 3, h)
				for _, s := range []step{{read(at, mine), b}, {swap(at, b, bm, mine), b}} {
					if d, more := k.Next(); !more || d != s.asked {
						t.Fatalf("%+v is asked for (%v) at the level %d", d, more, h)
					}
					k.Tell(s.found)
				}
			}
			ended(t, k)
		}
	}
}

// 22.1: a reference with or without the mark, of all generations, and of all indexes that there are, be there such a slot or not: its index leads to the words at the places of chapter 8's sums, By it, as it stands; the index 0 leads to the head's ways on.
func TestReferences(t *testing.T) {
	for _, p := range allPlans() {
		for _, gen := range []uint64{0, 1, 1 << 31, lastGen - 1, lastGen} {
			for _, slot := range []int{0, 1, 2, p.Slots, p.Slots + 1, 64, 65, 1 << 30, lastIndex} {
				if slot < 0 || slot > lastIndex {
					continue
				}
				for _, r := range []uint64{ref(gen, slot), ref(gen, slot) + 1} {
					var l []step
					for h := (job{p, r, 2}).levels() - 1; h >= 0; h-- {
						at := nextAt(p, slot, h)
						l = append(l, step{read(at, r), b}, step{swap(at, b, bm, r), a}, step{read(at, r), a}, step{swap(at, a, am, r), a})
					}
					marks(t, job{p, r, 2}, l...)
				}
			}
		}
	}
}

// someWords are the edges, and references with a mark and without.
func someWords() []uint64 {
	return append([]uint64{a, am, b, bm, mine, mine + 1, 88, ref(lastGen, lastIndex), ref(lastGen, lastIndex) + 1}, words...)
}

// 22.1: at all levels the way on that is loaded is 0, the mark alone, another reference, its own one, the greatest word, or another one: where it is marked, the next level comes, else it is swapped for the same one with the mark.
func TestWayOn(t *testing.T) {
	for _, high := range someWords() {
		for _, mid := range someWords() {
			for _, low := range someWords() {
				var l []step
				for n, w := range []uint64{high, mid, low} {
					l = append(l, step{read(36-n, mine), w})
					if w%2 == 0 {
						l = append(l, step{swap(36-n, w, w+1, mine), w})
					}
				}
				marks(t, job{three, mine, 3}, l...)
			}
		}
	}
}

// 22.1: behind a Swap that finds what was loaded it goes on with the next level, and behind one that finds any other word with the same one, again and again, and each bit of what was loaded counts.
func TestSwapFindsAnotherWord(t *testing.T) {
	for _, w := range []uint64{0, 2, a, b, mine, half, ref(0, lastIndex), ref(lastGen, 1), ref(lastGen, lastIndex), math.MaxUint64 - 1} {
		var others []uint64
		for bit := range 64 {
			others = append(others, w^1<<bit)
		}
		for _, other := range append(append(others, someWords()...), w+1, w-1, w+2, w-2, w+half, w-half) {
			if other == w {
				continue
			}
			for h := range 3 {
				at := 34 + h
				fails := []step{{read(at, mine), w}, {swap(at, w, w+1, mine), other}}
				l := []step{}
				for above := 36; above > at; above-- {
					l = append(l, step{read(above, mine), 88}, step{swap(above, 88, 89, mine), 88})
				}
				l = slices.Concat(l, fails, fails, fails, []step{{read(at, mine), 66}, {swap(at, 66, 67, mine), w | 1}}, fails)
				below := []step{}
				for low := at - 1; low >= 34; low-- {
					below = append(below, step{read(low, mine), bm})
				}
				loaded, swapped := []step{{read(at, mine), other | 1}}, []step{{read(at, mine), w}, {swap(at, w, w+1, mine), w}}
				marks(t, job{three, mine, 3}, slices.Concat(l, loaded, below)...)
				marks(t, job{three, mine, 3}, slices.Concat(l, swapped, below)...)
			}
		}
	}
}

// 22.1: what was loaded at one level counts for nothing at the next one, nor at a later try.
func TestWhatWasLoadedAhead(t *testing.T) {
	marks(t, job{small, mine, 2},
		step{read(32, mine), a}, step{swap(32, a, am, mine), b},
		step{read(32, mine), b}, step{swap(32, b, bm, mine), a},
		step{read(32, mine), a}, step{swap(32, a, am, mine), a},
		step{read(31, mine), b}, step{swap(31, b, bm, mine), a},
		step{read(31, mine), am})
	// The load tells what the level above was.
	marks(t, job{small, mine, 2}, step{read(32, mine), a}, step{swap(32, a, am, mine), a}, step{read(31, mine), a}, step{swap(31, a, am, mine), a})
	marks(t, job{small, mine, 2}, step{read(32, mine), am}, step{read(31, mine), am})
	// Of a marker that has loaded nothing yet, 0 is no more than any word.
	marks(t, job{small, mine, 2}, step{read(32, mine), 0}, step{swap(32, 0, 1, mine), 1}, step{read(32, mine), 1}, step{read(31, mine), 0}, step{swap(31, 0, 1, mine), 0})
}

// 22.1: it goes on as long as its Swap finds another word, again and again at one level, and keeps nothing of that.
func TestAgainAndAgain(t *testing.T) {
	for _, end := range [][]step{{{read(32, mine), 1}}, {{read(32, mine), 8}, {swap(32, 8, 9, mine), 8}}} {
		k := Mark(small, mine, 1<<40)
		for n := range uint64(20000) {
			w := ref(n, int(n%7))
			goes(t, k, []step{{read(32, mine), w}, {swap(32, w, w+1, mine), w + 1 + n%3*half}})
		}
		goes(t, k, end)
		for n := range uint64(20000) {
			goes(t, k, []step{{read(31, mine), 2 * n}, {swap(31, 2*n, 2*n+1, mine), 2*n + 2}})
		}
		goes(t, k, []step{{read(31, mine), math.MaxUint64}})
		ended(t, k)
	}
}

// choices are words that may be found by a deed: those that the chapter tells apart, and others.
func choices(d api.Deed) []uint64 {
	if d.Kind == 1 {
		return []uint64{0, 1, a, am, math.MaxUint64}
	}
	return []uint64{d.A, d.B, 0, 1, a, b, d.A + half}
}

// 22.1: whatever of the words that the chapter tells apart is found at each of the first steps, it goes on as the chapter's sentences say.
func TestWhateverIsFound(t *testing.T) {
	for _, j := range []job{{small, mine, 1}, {small, mine, 2}, {three, mine, 3}, {three, am, 9}} {
		var l []uint64
		var fill func()
		fill = func() {
			fast := j.mark()
			for _, found := range l {
				fast.Tell(found)
			}
			want := same(t, fast, j, l)
			if want.over || len(l) == 7 {
				return
			}
			for _, found := range choices(want.asked[len(want.asked)-1]) {
				l = append(l, found)
				fill()
				l = l[:len(l)-1]
			}
		}
		fill()
	}
}

// anyRef is a reference of chance, of an edge, with a mark or without, or any word.
func anyRef(r *rand.Rand) uint64 {
	switch r.Intn(4) {
	case 0:
		return r.Uint64()
	case 1:
		return words[r.Intn(len(words))]
	}
	return ref([]uint64{0, 1, uint64(r.Uint32()), lastGen}[r.Intn(4)], r.Intn(70)) + uint64(r.Intn(2))
}

// 22.1: words of chance, of which most are such as the chapter tells apart, of all plans, references and heights.
func TestWordsOfChance(t *testing.T) {
	r := rand.New(rand.NewSource(22))
	again, over := 0, 0
	for _, p := range allPlans() {
		for range 300 {
			j := job{p, anyRef(r), talls[r.Intn(len(talls))]}
			fast := j.mark()
			var l []uint64
			for range r.Intn(60) {
				want := same(t, fast, j, l)
				if want.over {
					break
				}
				now := want.asked[len(want.asked)-1]
				found := anyRef(r)
				if r.Intn(4) > 0 {
					some := choices(now)
					found = some[r.Intn(len(some))]
				}
				if now.Kind == 3 && r.Intn(2) == 0 {
					found = now.A
				}
				fast.Tell(found)
				l = append(l, found)
			}
			want := same(t, fast, j, l)
			again += want.again
			if want.over && len(l) > 0 {
				over++
			}
		}
	}
	if again < 5000 || over < 5000 {
		t.Errorf("it came to step 1 anew %d times only, and to its end %d times", again, over)
	}
}

// started is a job of three levels, and walked are the steps of it, with all kinds of ways from one to the next.
var (
	started = job{three, mine, 3}
	walked  = []step{
		{read(36, mine), 0}, {swap(36, 0, 1, mine), a},
		{read(36, mine), a}, {swap(36, a, am, mine), a},
		{read(35, mine), bm},
		{read(34, mine), b}, {swap(34, b, bm, mine), bm},
		{read(34, mine), 88}, {swap(34, 88, 89, mine), b},
		{read(34, mine), b}, {swap(34, b, bm, mine), b},
	}
)

// 22.1: asking changes nothing, however often: at each kind of step, and at the end.
func TestAskingChangesNothing(t *testing.T) {
	k := started.mark()
	for _, s := range walked {
		for range 300 {
			asks(t, k, s.asked)
		}
		k.Tell(s.found)
	}
	for range 100 {
		ended(t, k)
	}
}

// 22.1: a task is told ahead of being asked, and goes on all the same.
func TestTellAheadOfNext(t *testing.T) {
	for n := range walked {
		k := started.mark()
		for _, s := range walked[:n] {
			k.Tell(s.found)
		}
		asks(t, k, walked[n].asked)
	}
	k := started.mark()
	for _, s := range walked {
		k.Tell(s.found)
	}
	ended(t, k)
}

// 22.1 and R7: a marker that is nil, or that no call made, is done, stays so, and does nothing.
func TestTasksThatNoCallMade(t *testing.T) {
	var none *Marker
	for _, k := range []*Marker{none, {}, new(Marker)} {
		ended(t, k)
		for _, w := range words {
			k.Tell(w)
			ended(t, k)
		}
		c := made(t, small)
		was := c.Words()
		if l := task.Play(c, k, 9); len(l) != 0 {
			t.Errorf("%v was found", l)
		}
		stands(t, c, was)
	}
}

// 22.1: each marker goes its own way, of the same job and of others.
func TestTasksAreApart(t *testing.T) {
	x, y, other := started.mark(), started.mark(), Mark(small, b, 2)
	for _, s := range walked {
		asks(t, x, s.asked)
		asks(t, y, read(36, mine))
		asks(t, other, read(24, b))
		x.Tell(s.found)
	}
	for _, s := range walked[:6] {
		asks(t, y, s.asked)
		y.Tell(s.found)
	}
	goes(t, other, []step{{read(24, b), 0}, {swap(24, 0, 1, b), 0}, {read(23, b), 1}})
	goes(t, y, []step{{swap(34, b, bm, mine), b}})
	ended(t, y)
	ended(t, other)
	ended(t, x)
}

// 22.1: where there is no memory each deed finds 0: so each level takes two steps.
func TestNoMemory(t *testing.T) {
	for _, c := range []*cells.Cells{nil, new(cells.Cells)} {
		for _, p := range allPlans() {
			for _, tall := range talls {
				j := job{p, mine, tall}
				if j.levels() > 1000 {
					continue
				}
				k := j.mark()
				if l := task.Play(c, k, 5000); !slices.Equal(l, row(2*j.levels(), 0)) {
					t.Fatalf("%v was found of no memory", l)
				}
				ended(t, k)
			}
		}
	}
}

// 22.1: of plans that are not right, and of memories of any words, the words that there are turn as the steps say, wherever the sums put them.
func TestAnyMemory(t *testing.T) {
	r := rand.New(rand.NewSource(221))
	for _, p := range allPlans() {
		for range 60 {
			stand := make([]uint64, r.Intn(120))
			for at := range stand {
				stand[at] = anyRef(r)
			}
			j := job{p, ref(uint64(r.Intn(2)), r.Intn(6)) + uint64(r.Intn(2)), r.Intn(12) - 1}
			c, fast := memory(t, stand), j.mark()
			var found []uint64
			for now := j.tale(nil); !now.over; now = j.tale(found) {
				found = append(found, slow(stand, now.asked[len(now.asked)-1]))
			}
			if got := task.Play(c, fast, 500); !slices.Equal(got, found) {
				t.Fatalf("%v was found, not %v", got, found)
			}
			ended(t, fast)
			stands(t, c, stand)
		}
	}
}

// 22.2: alone, in all right plans, of all heights, slots of all places, and whatever words its ways on are: those below the height are marked then, from above, and lead where they led; all other words are as they were.
func TestAlone(t *testing.T) {
	r := rand.New(rand.NewSource(222))
	for _, p := range rightPlans() {
		for _, slot := range []int{1, 1 + p.Slots/2, p.Slots} {
			for tall := range p.Levels + 3 {
				for range 6 {
					stand := made(t, p).Words()
					for at := range stand {
						stand[at] = anyRef(r)
					}
					j := job{p, ref(uint64(r.Uint32()), slot), tall}
					c, fast := memory(t, stand), j.mark()
					for h := j.levels() - 1; h >= 0; h-- {
						stands(t, c, stand)
						own := nextAt(p, slot, h)
						task.Play(c, fast, 1+int(1-stand[own]%2))
						stand[own] = marked(stand[own])
					}
					ended(t, fast)
					stands(t, c, stand)
				}
			}
		}
	}
}

// fromAbove asks whether the ways on of a slot below a height are marked from above: where one is, each one above it is; and tells how many are.
func fromAbove(t *testing.T, stand []uint64, p api.Plan, slot, tall int) int {
	t.Helper()
	n := 0
	for h := tall - 1; h >= 0; h-- {
		if stand[nextAt(p, slot, h)]%2 == 0 {
			continue
		}
		n++
		if h+n != tall {
			t.Fatalf("the way on of the level %d is marked ahead of one above it", h)
		}
	}
	return n
}

// 22.2: whatever others lay as its ways on, as long as these have no mark, ahead of any step: when it is done all are marked, were so from above, and lead where the last ones led that others laid.
func TestWhateverOthersLay(t *testing.T) {
	r := rand.New(rand.NewSource(223))
	again := 0
	for _, p := range rightPlans() {
		for tall := 1; tall <= p.Levels; tall++ {
			for range 10 {
				c, slot := made(t, p), 1+r.Intn(p.Slots)
				stand := c.Words()
				j := job{p, ref(p.Gen, slot), tall}
				fast := j.mark()
				var told []uint64
				for now := same(t, fast, j, nil); !now.over; now = same(t, fast, j, told) {
					if len(told) < 200 && r.Intn(3) == 0 {
						own := nextAt(p, slot, r.Intn(now.level+1))
						w := []uint64{0, stand[own], anyRef(r), stand[own] + 2}[r.Intn(4)] &^ 1
						c.Store(own, w)
						stand[own] = w
					}
					told = append(told, task.Play(c, fast, 1)...)
					done := fromAbove(t, c.Words(), p, slot, tall)
					for h := tall - done; h < tall; h++ {
						own := nextAt(p, slot, h)
						stand[own] = marked(stand[own])
					}
					stands(t, c, stand)
				}
				again += j.tale(told).again
				if fromAbove(t, c.Words(), p, slot, tall) != tall {
					t.Fatalf("it is done, but not all is marked: %v", c.Words())
				}
			}
		}
	}
	if again < 500 {
		t.Errorf("it came to step 1 anew %d times only", again)
	}
}

// worker is a marker under way: its job, and what it was told.
type worker struct {
	fast *Marker
	job  job
	told []uint64
}

// step lets the marker do one step, held against what stands by the chapter's sentences, and tells whether it is done then.
func (g *worker) step(t *testing.T, c *cells.Cells) bool {
	t.Helper()
	want := same(t, g.fast, g.job, g.told)
	if want.over {
		return true
	}
	stand := c.Words()
	found := slow(stand, want.asked[len(want.asked)-1])
	if got := task.Play(c, g.fast, 1); len(got) != 1 || got[0] != found {
		t.Fatalf("%v was found at one step, not %d", got, found)
	}
	stands(t, c, stand)
	g.told = append(g.told, found)
	return same(t, g.fast, g.job, g.told).over
}

// 22.2: two markers of one timer, in all orders of their steps: the ways on are marked from above, and as soon as one of them is done all are; they lead where they led.
func TestTwoInAllOrders(t *testing.T) {
	again := 0
	for order := range 1 << 12 {
		c := made(t, three)
		for h, w := range []uint64{a, 0, b} {
			c.Store(34+h, w)
		}
		j := job{three, mine, 3}
		now := []*worker{{fast: j.mark(), job: j}, {fast: j.mark(), job: j}}
		over := [2]bool{}
		for n := 0; !over[0] || !over[1]; n++ {
			i := order >> min(n, 12) & 1
			if over[i] {
				i = 1 - i
			}
			over[i] = now[i].step(t, c)
			done := fromAbove(t, c.Words(), three, 3, 3)
			if (over[0] || over[1]) && done < 3 {
				t.Fatalf("one is done, but only %d are marked, in the order %b", done, order)
			}
		}
		if c.Load(34) != am || c.Load(35) != 1 || c.Load(36) != bm {
			t.Fatalf("%v stand in the order %b", c.Words(), order)
		}
		again += j.tale(now[0].told).again + j.tale(now[1].told).again
	}
	if again < 1000 {
		t.Errorf("they came to step 1 anew %d times only", again)
	}
}

// chainOf tells who is in the chain of a level of a memory, from the head on.
func chainOf(t *testing.T, stand []uint64, p api.Plan, level int) []uint64 {
	t.Helper()
	var in []uint64
	for w := stand[nextAt(p, 0, level)]; w%half > 1; w = stand[nextAt(p, indexOf(w), level)] {
		if in = append(in, w-w%2); len(in) > p.Slots {
			t.Fatalf("the chain of the level %d does not end", level)
		}
	}
	return in
}

// 22.2: a timer that is marked while it comes into the higher chains (21), in all orders of their steps: its ways on are marked from above, all of them are when the marker is done, and are not turned any more; and the next seek of its key takes it out of all chains.
func TestWhileItIsLifted(t *testing.T) {
	key, into, again := api.Key{Deadline: 4, Seq: 1}, 0, 0
	// The slot 1 is in all chains, and the timer ahead of it, in the lowest one alone.
	stand := made(t, three).Words()
	stand[plan.Dead(three, 1)], stand[plan.Dead(three, 3)], stand[plan.Seq(three, 3)] = 7, 4, 1
	stand[7], stand[8], stand[9], stand[34] = mine, a, a, a
	for _, succs := range [][]uint64{{a, a, a}, {a, 0, a}, {a, a, 0}, {a, 78, 78}} {
		for order := range 1 << 14 {
			c, up := memory(t, stand), lift.Lift(three, mine, key, 3, row(3, 0), succs)
			j := job{three, mine, 3}
			g := &worker{fast: j.mark(), job: j}
			over := false
			for n := 0; !over; n++ {
				if n < 14 && order>>n&1 == 0 {
					task.Play(c, up, 1)
				} else {
					over = g.step(t, c)
				}
				fromAbove(t, c.Words(), three, 3, 3)
			}
			again += j.tale(g.told).again
			ways := c.Words()[34:]
			if fromAbove(t, c.Words(), three, 3, 3) != 3 {
				t.Fatalf("it is done, but %v are the ways on", ways)
			}
			task.Play(c, up, 99)
			if now := c.Words()[34:]; !slices.Equal(now, ways) {
				t.Fatalf("%v are the ways on, not %v", now, ways)
			}
			into += len(chainOf(t, c.Words(), three, 2)) - 1
			task.Play(c, seek.Seek(three, key), 99)
			for h := range 3 {
				if in := chainOf(t, c.Words(), three, h); !slices.Equal(in, []uint64{a}) {
					t.Fatalf("%v are in the chain of the level %d, in the order %b", in, h, order)
				}
			}
		}
	}
	if into < 1000 || again < 500 {
		t.Errorf("it came into the highest chain %d times only, and %d times the marker came to step 1 anew", into, again)
	}
}

// timer is one that stands in chains: its reference, its key and its height.
type timer struct {
	ref  uint64
	key  api.Key
	tall int
}

// filled makes a memory of a right plan, in all slots of which timers stand, in any order of their deadlines.
func filled(t *testing.T, r *rand.Rand, p api.Plan) (*cells.Cells, []timer) {
	t.Helper()
	c := made(t, p)
	var l []timer
	for _, n := range r.Perm(p.Slots) {
		tall := 1 + r.Intn(p.Levels)
		m := mint.Mint(p, n+1, r.Intn(9), tall)
		task.Play(c, m, 99)
		k := link.Link(p, m.Ref(), m.Key(), tall)
		task.Play(c, k, 9000)
		task.Play(c, lift.Lift(p, m.Ref(), m.Key(), tall, k.Preds(), k.Succs()), 9000)
		l = append(l, timer{m.Ref(), m.Key(), tall})
	}
	return c, l
}

// 22.2: several timers whose ways on are marked by turns, each by one marker or by two, while seeks take those out that are marked: each step is the one that the chapter's sentences say, the ways on of each are marked from above, and, when all is done, behind a seek of each key just the others are in the chains, in the order they were.
func TestInTurns(t *testing.T) {
	r := rand.New(rand.NewSource(224))
	again := 0
	for _, p := range rightPlans() {
		for range 3 {
			c, l := filled(t, r, p)
			was := c.Words()
			out := l[:r.Intn(len(l)+1)]
			var now []*worker
			for _, one := range out {
				for range 1 + r.Intn(2) {
					j := job{p, one.ref, one.tall}
					now = append(now, &worker{fast: j.mark(), job: j})
				}
			}
			for len(now) > 0 {
				i := r.Intn(len(now))
				g := now[i]
				if r.Intn(20) == 0 {
					task.Play(c, seek.Seek(p, l[r.Intn(len(l))].key), r.Intn(500))
				}
				over := g.step(t, c)
				if done := fromAbove(t, c.Words(), p, indexOf(g.job.ref), g.job.tall); over && done != g.job.tall {
					t.Fatalf("%d is done, but only %d of its ways on are marked", g.job.ref, done)
				}
				if over {
					again += g.job.tale(g.told).again
					now = slices.Delete(now, i, i+1)
				}
			}
			for _, one := range out {
				task.Play(c, seek.Seek(p, one.key), 9000)
			}
			for h := range p.Levels {
				want := slices.DeleteFunc(chainOf(t, was, p, h), func(r uint64) bool {
					return slices.ContainsFunc(out, func(one timer) bool { return one.ref == r })
				})
				if in := chainOf(t, c.Words(), p, h); !slices.Equal(in, want) {
					t.Fatalf("%v are in the chain of the level %d, not %v", in, h, want)
				}
			}
		}
	}
	if again < 100 {
		t.Errorf("they came to step 1 anew %d times only", again)
	}
}
