package plan

import (
	"math"
	"math/big"
	"slices"
	"testing"

	"sundial/api"
)

// word is what a word is called, and of which thread or slot it is, and of which level.
type word struct {
	name      string
	of, level int
}

// asked is a call that tells the place of a word of a thread or a slot, by what the word is called.
type asked struct {
	name string
	tell func(p api.Plan, of int) int
}

// ofThreads and ofSlots are the calls that are asked of a thread, and those that are asked of a slot alone, in the order of their words.
func ofThreads() []asked {
	return []asked{{"pin", Pin}, {"sleep", Sleep}, {"sem", Sem}}
}

func ofSlots() []asked {
	return []asked{{"state", State}, {"dead", Dead}, {"seq", Seq}, {"tall", Tall}, {"hold", Hold}, {"succ", Succ}}
}

// placeOf asks the package for the place of w; the words that are there once are at api's own.
func placeOf(t *testing.T, p api.Plan, w word) int {
	t.Helper()
	switch w.name {
	case "epoch":
		return api.AtEpoch
	case "clock":
		return api.AtClock
	case "serial":
		return api.AtSerial
	case "free":
		return api.AtFree
	case "next":
		return Next(p, w.of, w.level)
	}
	for _, a := range append(ofThreads(), ofSlots()...) {
		if a.name == w.name {
			return a.tell(p, w.of)
		}
	}
	t.Fatalf("no call tells %q", w.name)
	return 0
}

// inOrder tells all words of a right plan in the order of the chapter's sentences: by laying one behind the other, without a sum.
func inOrder(p api.Plan) []word {
	l := []word{{name: "epoch"}, {name: "clock"}, {name: "serial"}, {name: "free"}}
	for _, name := range []string{"pin", "sleep", "sem"} {
		for thread := 0; thread < p.Threads; thread++ {
			l = append(l, word{name: name, of: thread})
		}
	}
	for slot := 0; slot <= p.Slots; slot++ {
		if slot > 0 {
			for _, name := range []string{"state", "dead", "seq", "tall", "hold", "succ"} {
				l = append(l, word{name: name, of: slot})
			}
		}
		for level := 0; level < p.Levels; level++ {
			l = append(l, word{"next", slot, level})
		}
	}
	return l
}

// rightPlans are all that there are, of the generation gen.
func rightPlans(gen uint64) []api.Plan {
	var l []api.Plan
	for threads := 1; threads <= 8; threads++ {
		for slots := 1; slots <= 64; slots++ {
			for levels := 1; levels <= 8; levels++ {
				l = append(l, api.Plan{Threads: threads, Slots: slots, Levels: levels, Gen: gen})
			}
		}
	}
	return l
}

// far are numbers of which sums and products go round, and some whose lowest bits are right ones' bits.
var far = []int{
	math.MinInt, math.MinInt + 1, math.MinInt + 2, math.MinInt / 2, math.MinInt/3 - 1, -1<<62 - 1, -1 << 32, -1<<32 + 1, math.MinInt32, -4096, -65, -64, -9, -8, -7, -6, -5, -4, -3, -2, -1,
	0, 1, 2, 3, 4, 5, 7, 8, 9, 10, 63, 64, 65, 66, 127, 128, 256, 257, 4095, 4096, 1<<16 + 1, 1<<31 - 1, 1 << 31, 1<<32 - 1, 1 << 32, 1<<32 + 1, 1<<32 + 64, 3037000500, 1<<61 + 3, 1 << 62, 1<<62 + 1, math.MaxInt/3 + 1, math.MaxInt - 7, math.MaxInt - 1, math.MaxInt,
}

// gens are right generations; wrongGens are above them.
var (
	gens      = []uint64{0, 1, 2, 1 << 31, 1<<32 - 2, 1<<32 - 1}
	wrongGens = []uint64{1 << 32, 1<<32 + 1, 1<<32 + 5, 1<<33 - 1, 1<<63 - 1, 1 << 63, math.MaxUint64 - 1, math.MaxUint64}
)

// round tells the number of 64 bits, with a sign, that is left of n.
func round(n *big.Int) int {
	m := new(big.Int).Mod(n, new(big.Int).Lsh(big.NewInt(1), 64))
	return int(int64(m.Uint64()))
}

// sum tells the numbers together, without an end.
func sum(l ...*big.Int) *big.Int {
	s := new(big.Int)
	for _, n := range l {
		s.Add(s, n)
	}
	return s
}

// num tells n as a number without an end.
func num(n int) *big.Int {
	return big.NewInt(int64(n))
}

// times tells the product, without an end.
func times(a, b *big.Int) *big.Int {
	return new(big.Int).Mul(a, b)
}

// ahead tells 4 + 3T + H: how many words stand ahead of the slots.
func ahead(p api.Plan) *big.Int {
	return sum(num(4), times(num(3), num(p.Threads)), num(p.Levels))
}

// slotWords tells 6 + H.
func slotWords(p api.Plan) *big.Int {
	return sum(num(6), num(p.Levels))
}

// wordsOf tells 4 + 3T + H + N(6 + H), which goes round at the end alone.
func wordsOf(p api.Plan) int {
	return round(sum(ahead(p), times(num(p.Slots), slotWords(p))))
}

// threadWord tells 4 + row T + thread.
func threadWord(p api.Plan, row, thread int) int {
	return round(sum(num(4), times(num(row), num(p.Threads)), num(thread)))
}

// slotWord tells 4 + 3T + H + (slot - 1)(6 + H) + off + level.
func slotWord(p api.Plan, slot, off, level int) int {
	return round(sum(ahead(p), times(sum(num(slot), num(-1)), slotWords(p)), num(off), num(level)))
}

// nextWord tells where a way on is, the head's being that of the slot 0.
func nextWord(p api.Plan, slot, level int) int {
	if slot == 0 {
		return round(sum(num(4), times(num(3), num(p.Threads)), num(level)))
	}
	return slotWord(p, slot, 6, level)
}

// check holds what all calls tell of p, asked of the thread or the slot of and of the level, against the chapter's sums.
func check(t *testing.T, p api.Plan, of, level int) {
	t.Helper()
	for row, a := range ofThreads() {
		if got, want := a.tell(p, of), threadWord(p, row, of); got != want {
			t.Fatalf("%s of %d in %+v is at %d, not %d", a.name, of, p, got, want)
		}
	}
	for off, a := range ofSlots() {
		if got, want := a.tell(p, of), slotWord(p, of, off, 0); got != want {
			t.Fatalf("%s of %d in %+v is at %d, not %d", a.name, of, p, got, want)
		}
	}
	if got, want := Next(p, of, level), nextWord(p, of, level); got != want {
		t.Fatalf("next %d of %d in %+v is at %d, not %d", level, of, p, got, want)
	}
}

// 8.1: how many words there are and which plans are right: the examples and the edges, in numbers.
func TestRightAndWordsInNumbers(t *testing.T) {
	for _, x := range []struct {
		p     api.Plan
		want  api.Errno
		words int
	}{
		{api.Plan{Threads: 2, Slots: 3, Levels: 4}, api.OK, 44},
		{api.Plan{Threads: 2, Slots: 3, Levels: 4, Gen: 1<<32 - 1}, api.OK, 44},
		{api.Plan{Threads: 1, Slots: 1, Levels: 1}, api.OK, 15},
		{api.Plan{Threads: 8, Slots: 64, Levels: 8}, api.OK, 932},
		{api.Plan{Threads: 8, Slots: 64, Levels: 8, Gen: 1<<32 - 1}, api.OK, 932},
		{api.Plan{Threads: 8, Slots: 1, Levels: 1}, api.OK, 36},
		{api.Plan{Threads: 1, Slots: 64, Levels: 1}, api.OK, 456},
		{api.Plan{Threads: 1, Slots: 1, Levels: 8}, api.OK, 29},
		{api.Plan{Threads: 1, Slots: 1, Levels: 1, Gen: 1 << 32}, api.ErrPlan, 15},
		{api.Plan{Threads: 8, Slots: 64, Levels: 8, Gen: math.MaxUint64}, api.ErrPlan, 932},
		{api.Plan{}, api.ErrPlan, 4},
		{api.Plan{Threads: 0, Slots: 1, Levels: 1}, api.ErrPlan, 12},
		{api.Plan{Threads: 9, Slots: 1, Levels: 1}, api.ErrPlan, 39},
		{api.Plan{Threads: 1, Slots: 0, Levels: 1}, api.ErrPlan, 8},
		{api.Plan{Threads: 1, Slots: 65, Levels: 1}, api.ErrPlan, 463},
		{api.Plan{Threads: 1, Slots: 1, Levels: 0}, api.ErrPlan, 13},
		{api.Plan{Threads: 1, Slots: 1, Levels: 9}, api.ErrPlan, 31},
		{api.Plan{Threads: -1, Slots: -1, Levels: -1}, api.ErrPlan, -5},
		{api.Plan{Threads: 1, Slots: 2, Levels: -6}, api.ErrPlan, 1},
		{api.Plan{Threads: math.MaxInt, Slots: 1, Levels: 1}, api.ErrPlan, math.MinInt + 9},
		{api.Plan{Threads: math.MinInt, Slots: 1, Levels: 1}, api.ErrPlan, math.MinInt + 12},
		{api.Plan{Threads: 1, Slots: math.MaxInt, Levels: 1}, api.ErrPlan, math.MinInt + 1},
		{api.Plan{Threads: 1, Slots: math.MinInt, Levels: 1}, api.ErrPlan, math.MinInt + 8},
		{api.Plan{Threads: 1, Slots: math.MinInt, Levels: 2}, api.ErrPlan, 9},
		{api.Plan{Threads: 1, Slots: 1, Levels: math.MaxInt}, api.ErrPlan, 11},
		{api.Plan{Threads: 1, Slots: 1, Levels: math.MinInt}, api.ErrPlan, 13},
		{api.Plan{Threads: 1<<32 + 1, Slots: 1, Levels: 1}, api.ErrPlan, 3<<32 + 15},
		{api.Plan{Threads: 1, Slots: 1<<32 + 1, Levels: 1}, api.ErrPlan, 7<<32 + 15},
		{api.Plan{Threads: 1, Slots: 1, Levels: 1<<32 + 1}, api.ErrPlan, 2<<32 + 15},
	} {
		if got := Right(x.p); got != x.want {
			t.Errorf("Right(%+v) is %d, not %d", x.p, got, x.want)
		}
		if got := Words(x.p); got != x.words {
			t.Errorf("Words(%+v) is %d, not %d", x.p, got, x.words)
		}
	}
}

// 8.1: each of a plan's numbers at all edges, beside right ones and wrong ones of all the others: right is a plan just if all four are.
func TestRight(t *testing.T) {
	edges := func(most int) []int {
		return append([]int{1, 2, most - 1, most, most + 1}, math.MinInt, math.MinInt+1, math.MinInt32, -1<<32+1, -most, -2, -1, 0, 2*most, 256+1, 1<<31-1, 1<<31, 1<<32, 1<<32+1, 1<<62, math.MaxInt-1, math.MaxInt)
	}
	for _, threads := range edges(8) {
		for _, slots := range edges(64) {
			for _, levels := range edges(8) {
				for _, gen := range slices.Concat(gens, wrongGens) {
					want := api.OK
					if threads < 1 || threads > 8 || slots < 1 || slots > 64 || levels < 1 || levels > 8 || gen > 4294967295 {
						want = api.ErrPlan
					}
					p := api.Plan{Threads: threads, Slots: slots, Levels: levels, Gen: gen}
					if got := Right(p); got != want {
						t.Fatalf("Right(%+v) is %d, not %d", p, got, want)
					}
				}
			}
		}
	}
}

// 8.1: all right plans are right, of each right generation, and none of a wrong one.
func TestRightOfAllRightPlans(t *testing.T) {
	for _, gen := range gens {
		for _, p := range rightPlans(gen) {
			if got := Right(p); got != api.OK {
				t.Fatalf("Right(%+v) is %d", p, got)
			}
		}
	}
	for _, gen := range wrongGens {
		for _, p := range rightPlans(gen) {
			if got := Right(p); got != api.ErrPlan {
				t.Fatalf("Right(%+v) is %d", p, got)
			}
		}
	}
}

// 8.1: how many words there are, of numbers that are right and of such as are not, against the chapter's sum.
func TestWords(t *testing.T) {
	for _, threads := range far {
		for _, slots := range far {
			for _, levels := range far {
				p := api.Plan{Threads: threads, Slots: slots, Levels: levels}
				if got, want := Words(p), wordsOf(p); got != want {
					t.Fatalf("Words(%+v) is %d, not %d", p, got, want)
				}
			}
		}
	}
}

// 8.2: the chapter's example, and each call of it, in numbers.
func TestPlacesInNumbers(t *testing.T) {
	p := api.Plan{Threads: 2, Slots: 3, Levels: 4, Gen: 7}
	for _, x := range []struct {
		name string
		got  int
		want int
	}{
		{"pin 0", Pin(p, 0), 4}, {"pin 1", Pin(p, 1), 5}, {"sleep 0", Sleep(p, 0), 6}, {"sleep 1", Sleep(p, 1), 7}, {"sem 0", Sem(p, 0), 8}, {"sem 1", Sem(p, 1), 9},
		{"head 0", Next(p, 0, 0), 10}, {"head 1", Next(p, 0, 1), 11}, {"head 3", Next(p, 0, 3), 13},
		{"slot 1 state", State(p, 1), 14}, {"slot 1 dead", Dead(p, 1), 15}, {"slot 1 seq", Seq(p, 1), 16}, {"slot 1 tall", Tall(p, 1), 17}, {"slot 1 hold", Hold(p, 1), 18}, {"slot 1 succ", Succ(p, 1), 19},
		{"slot 1 next 0", Next(p, 1, 0), 20}, {"slot 1 next 3", Next(p, 1, 3), 23},
		{"slot 2 state", State(p, 2), 24}, {"slot 2 hold", Hold(p, 2), 28}, {"slot 2 next 1", Next(p, 2, 1), 31},
		{"slot 3 state", State(p, 3), 34}, {"slot 3 dead", Dead(p, 3), 35}, {"slot 3 seq", Seq(p, 3), 36}, {"slot 3 tall", Tall(p, 3), 37}, {"slot 3 succ", Succ(p, 3), 39}, {"slot 3 next 3", Next(p, 3, 3), 43},
		{"thread 2's pin", Pin(p, 2), 6}, {"thread -1's pin", Pin(p, -1), 3}, {"thread -1's sleep", Sleep(p, -1), 5}, {"thread 2's sem", Sem(p, 2), 10}, {"thread -9's sem", Sem(p, -9), -1},
		{"head 4", Next(p, 0, 4), 14}, {"head -1", Next(p, 0, -1), 9}, {"slot 1 next 4", Next(p, 1, 4), 24}, {"slot 1 next -1", Next(p, 1, -1), 19},
		{"slot 0 state", State(p, 0), 4}, {"slot 0 dead", Dead(p, 0), 5}, {"slot 0 seq", Seq(p, 0), 6}, {"slot 0 tall", Tall(p, 0), 7}, {"slot 0 hold", Hold(p, 0), 8}, {"slot 0 succ", Succ(p, 0), 9},
		{"slot -1 state", State(p, -1), -6}, {"slot -1 succ", Succ(p, -1), -1}, {"slot -1 next 0", Next(p, -1, 0), 0}, {"slot -1 next 3", Next(p, -1, 3), 3},
		{"slot 4 state", State(p, 4), 44}, {"slot 4 tall", Tall(p, 4), 47}, {"slot 4 next 0", Next(p, 4, 0), 50}, {"slot 5 next 5", Next(p, 5, 5), 65},
		{"the greatest thread's pin", Pin(p, math.MaxInt), math.MinInt + 3}, {"the greatest thread's sem", Sem(p, math.MaxInt), math.MinInt + 7}, {"the greatest level of the head", Next(p, 0, math.MaxInt), math.MinInt + 9},
		{"the greatest slot's state", State(p, math.MaxInt), -6}, {"the least slot's state", State(p, math.MinInt), 4}, {"the least slot's next", Next(p, math.MinInt, math.MinInt), math.MinInt + 10},
	} {
		if x.got != x.want {
			t.Errorf("%s of %+v is at %d, not %d", x.name, p, x.got, x.want)
		}
	}
}

// 8.1 and 8.2: in each right plan each word is at the place at which it stands, where all are laid one behind the other in the chapter's order, and there are as many.
func TestPlacesOfRightPlans(t *testing.T) {
	for _, p := range rightPlans(0) {
		l := inOrder(p)
		if got := Words(p); got != len(l) {
			t.Fatalf("Words(%+v) is %d, not %d", p, got, len(l))
		}
		for want, w := range l {
			if got := placeOf(t, p, w); got != want {
				t.Fatalf("%+v in %+v is at %d, not %d", w, p, got, want)
			}
		}
	}
}

// 8.2: threads, slots and levels that there are and that there are not, about the first one and the last one of each right plan, against the chapter's sums.
func TestPlacesBesideTheEdges(t *testing.T) {
	for _, p := range rightPlans(3) {
		for _, of := range []int{-1, 0, 1, p.Threads - 1, p.Threads, p.Slots, p.Slots + 1} {
			for _, level := range []int{-1, 0, p.Levels - 1, p.Levels} {
				check(t, p, of, level)
			}
		}
	}
}

// 8.2: threads, slots and levels that are so great or so far below 0 that the sums and products go round, in right plans.
func TestPlacesThatGoRound(t *testing.T) {
	for _, p := range []api.Plan{
		{Threads: 1, Slots: 1, Levels: 1}, {Threads: 2, Slots: 3, Levels: 4}, {Threads: 8, Slots: 64, Levels: 8, Gen: 1<<32 - 1},
		{Threads: 8, Slots: 1, Levels: 2}, {Threads: 1, Slots: 64, Levels: 3}, {Threads: 5, Slots: 17, Levels: 7},
	} {
		for _, of := range far {
			for _, level := range far {
				check(t, p, of, level)
			}
		}
	}
}

// 8.2: the same sums hold of plans that are not right, be one of their numbers wrong or all; how many slots there are changes no place.
func TestPlacesOfWrongPlans(t *testing.T) {
	for _, threads := range far {
		for _, levels := range far {
			for _, slots := range []int{math.MinInt, 0, 65} {
				p := api.Plan{Threads: threads, Slots: slots, Levels: levels, Gen: uint64(slots)}
				for _, of := range []int{math.MinInt, -1, 0, 1, 2, 65, 1<<32 + 1, math.MaxInt} {
					check(t, p, of, of)
					check(t, p, of, 1-of)
				}
			}
		}
	}
}

// 8.2: of the slot 0 the way on is the head's, which hangs on no slot's words; all else of the slot 0 is where a slot ahead of the first one would be.
func TestSlotNone(t *testing.T) {
	for _, p := range rightPlans(1) {
		for level := -1; level <= p.Levels; level++ {
			if got, want := Next(p, 0, level), 4+3*p.Threads+level; got != want {
				t.Fatalf("next %d of the slot 0 in %+v is at %d, not %d", level, p, got, want)
			}
		}
		for off, a := range ofSlots() {
			if got, want := a.tell(p, 0), 4+3*p.Threads+p.Levels-6-p.Levels+off; got != want {
				t.Fatalf("%s of the slot 0 in %+v is at %d, not %d", a.name, p, got, want)
			}
		}
	}
}

// 8.1 and 8.2: the generation, right or wrong, changes neither how many words there are nor where one is.
func TestGenerationMovesNothing(t *testing.T) {
	for _, p := range []api.Plan{{}, {Threads: 2, Slots: 3, Levels: 4}, {Threads: 8, Slots: 64, Levels: 8}, {Threads: -3, Slots: 65, Levels: 100}} {
		for _, gen := range slices.Concat(gens, wrongGens) {
			q := p
			q.Gen = gen
			if got, want := Words(q), Words(p); got != want {
				t.Fatalf("Words(%+v) is %d, not %d", q, got, want)
			}
			for of := -1; of <= 66; of++ {
				for level := -1; level <= 8; level++ {
					check(t, q, of, level)
				}
			}
		}
	}
}

// 8.3: in each right plan no two words are at one place, none is ahead of the first place or behind the last one, and all places are some word's.
func TestNoTwoWordsAtOnePlace(t *testing.T) {
	for _, p := range rightPlans(0) {
		at := make([]*word, Words(p))
		take := func(w word) {
			n := placeOf(t, p, w)
			if n < 0 || n >= len(at) {
				t.Fatalf("%+v in %+v is at %d of %d", w, p, n, len(at))
			}
			if at[n] != nil {
				t.Fatalf("%+v and %+v in %+v are both at %d", *at[n], w, p, n)
			}
			at[n] = &w
		}
		for _, name := range []string{"epoch", "clock", "serial", "free"} {
			take(word{name: name})
		}
		for thread := range p.Threads {
			for _, a := range ofThreads() {
				take(word{name: a.name, of: thread})
			}
		}
		for slot := range p.Slots + 1 {
			for level := range p.Levels {
				take(word{"next", slot, level})
			}
			for _, a := range ofSlots() {
				if slot > 0 {
					take(word{name: a.name, of: slot})
				}
			}
		}
		if n := slices.Index(at, nil); n >= 0 {
			t.Fatalf("in %+v no word is at %d", p, n)
		}
	}
}

// 8.1 and the limits: no right plan has more words than a memory can have.
func TestWordsFitAMemory(t *testing.T) {
	for _, p := range rightPlans(0) {
		if n := Words(p); n < 15 || n > 932 || n > api.MaxWords {
			t.Fatalf("Words(%+v) is %d", p, n)
		}
	}
}
