package place

import (
	"fmt"
	"math"
	"math/rand"
	"slices"
	"testing"

	"sundial/api"
	"sundial/plan"
)

// What each kind of spot has beside its kind.
const (
	hasNone = iota
	hasThread
	hasLevel
	hasSlot
	hasBoth
)

// kindOf is a kind of spot: its number, what it has, and what it is called.
type kindOf struct {
	kind, has int
	name      string
}

// kinds are all kinds of spots that a word can have, in numbers of their own.
func kinds() []kindOf {
	return []kindOf{
		{1, hasNone, "epoch"}, {2, hasNone, "clock"}, {3, hasNone, "serial"}, {4, hasNone, "free"},
		{5, hasThread, "pin"}, {6, hasThread, "sleep"}, {7, hasThread, "sem"}, {8, hasLevel, "head"},
		{9, hasSlot, "state"}, {10, hasSlot, "dead"}, {11, hasSlot, "seq"}, {12, hasSlot, "tall"}, {13, hasSlot, "hold"}, {14, hasSlot, "succ"}, {15, hasBoth, "next"},
	}
}

// inOrder tells what all words of a right plan are for, in the order of chapter 8's sentences: by laying one behind the other, without a sum.
func inOrder(p api.Plan) []api.Spot {
	l := []api.Spot{{Kind: 1}, {Kind: 2}, {Kind: 3}, {Kind: 4}}
	for _, kind := range []int{5, 6, 7} {
		for thread := 0; thread < p.Threads; thread++ {
			l = append(l, api.Spot{Kind: kind, Of: thread})
		}
	}
	for level := 0; level < p.Levels; level++ {
		l = append(l, api.Spot{Kind: 8, Level: level})
	}
	for slot := 1; slot <= p.Slots; slot++ {
		for _, kind := range []int{9, 10, 11, 12, 13, 14} {
			l = append(l, api.Spot{Kind: kind, Of: slot})
		}
		for level := 0; level < p.Levels; level++ {
			l = append(l, api.Spot{Kind: 15, Of: slot, Level: level})
		}
	}
	return l
}

// whereOf tells the place of s by the chapter's sentences: there is such a word, or there is none.
func whereOf(p api.Plan, s api.Spot) int {
	if p.Threads < 1 || p.Threads > 8 || p.Slots < 1 || p.Slots > 64 || p.Levels < 1 || p.Levels > 8 || p.Gen > 4294967295 {
		return -1
	}
	thread := s.Of >= 0 && s.Of < p.Threads
	slot := s.Of >= 1 && s.Of <= p.Slots
	level := s.Level >= 0 && s.Level < p.Levels
	head := 4 + 3*p.Threads
	first := head + p.Levels + (s.Of-1)*(6+p.Levels)
	for _, k := range kinds() {
		switch {
		case s.Kind != k.kind:
		case k.has == hasNone && s.Of == 0 && s.Level == 0:
			return s.Kind - 1
		case k.has == hasThread && thread && s.Level == 0:
			return 4 + (s.Kind-5)*p.Threads + s.Of
		case k.has == hasLevel && s.Of == 0 && level:
			return head + s.Level
		case k.has == hasSlot && slot && s.Level == 0:
			return first + s.Kind - 9
		case k.has == hasBoth && slot && level:
			return first + 6 + s.Level
		}
	}
	return -1
}

// textOf tells the text of s by the chapter's sentences.
func textOf(s api.Spot) string {
	for _, k := range kinds() {
		if k.kind != s.Kind {
			continue
		}
		return map[int]string{
			hasNone:   k.name,
			hasThread: fmt.Sprintf("%s %d", k.name, s.Of),
			hasLevel:  fmt.Sprintf("%s %d", k.name, s.Level),
			hasSlot:   fmt.Sprintf("slot %d %s", s.Of, k.name),
			hasBoth:   fmt.Sprintf("slot %d %s %d", s.Of, k.name, s.Level),
		}[k.has]
	}
	return "none"
}

// rightPlans are of all numbers of threads and levels, with few and with many slots, the smallest and the greatest plan among them.
func rightPlans() []api.Plan {
	gens := []uint64{0, 1, 7, 1 << 31, 1<<32 - 2, 1<<32 - 1}
	var l []api.Plan
	for threads := 1; threads <= 8; threads++ {
		for levels := 1; levels <= 8; levels++ {
			for _, slots := range []int{1, 2, 3, 9, 10, 63, 64} {
				l = append(l, api.Plan{Threads: threads, Slots: slots, Levels: levels, Gen: gens[len(l)%len(gens)]})
			}
		}
	}
	return l
}

// edgePlans are right ones of which each number is the least or the greatest, and the example's.
func edgePlans() []api.Plan {
	l := []api.Plan{{Threads: 2, Slots: 3, Levels: 4}, {Threads: 5, Slots: 11, Levels: 3, Gen: 9}}
	for _, threads := range []int{1, 8} {
		for _, slots := range []int{1, 64} {
			for _, levels := range []int{1, 8} {
				l = append(l, api.Plan{Threads: threads, Slots: slots, Levels: levels, Gen: uint64(len(l)%2) * (1<<32 - 1)})
			}
		}
	}
	return l
}

// wrongPlans are those of which one number, or each, is none that there is.
func wrongPlans() []api.Plan {
	l := []api.Plan{{}, {Threads: -1, Slots: -1, Levels: -1}, {Threads: math.MaxInt, Slots: math.MaxInt, Levels: math.MaxInt, Gen: math.MaxUint64}, {Threads: math.MinInt, Slots: math.MinInt, Levels: math.MinInt}, {Threads: 9, Slots: 65, Levels: 9, Gen: 1 << 32}}
	for _, n := range []int{math.MinInt, math.MinInt + 1, math.MinInt32, -1 << 32, -64, -8, -1, 0, 65, 66, 256 + 1, 1<<31 - 1, 1 << 32, 1<<32 + 1, 1 << 62, math.MaxInt - 1, math.MaxInt} {
		l = append(l, api.Plan{Threads: n, Slots: 3, Levels: 4}, api.Plan{Threads: 2, Slots: n, Levels: 4}, api.Plan{Threads: 2, Slots: 3, Levels: n})
	}
	l = append(l, api.Plan{Threads: 9, Slots: 3, Levels: 4}, api.Plan{Threads: 2, Slots: 3, Levels: 9})
	for _, gen := range []uint64{1 << 32, 1<<32 + 1, 1 << 63, math.MaxUint64} {
		l = append(l, api.Plan{Threads: 2, Slots: 3, Levels: 4, Gen: gen}, api.Plan{Threads: 8, Slots: 64, Levels: 8, Gen: gen})
	}
	return l
}

// far are numbers that nothing is counted by, some of which have the lowest bits of such as are.
var far = []int{math.MinInt, math.MinInt + 1, math.MinInt32, -1 << 32, -1<<32 + 1, -256 + 1, -65, -10, -2, -1, 65, 66, 100, 255, 256, 257, 4095, 4096, 1<<16 + 1, 1<<31 - 1, 1 << 31, 1 << 32, 1<<32 + 1, 1<<32 + 2, 1 << 62, math.MaxInt - 1, math.MaxInt}

// 9.1 and 9.2: the chapter's examples, and each place of their plan, in numbers.
func TestEachPlaceInNumbers(t *testing.T) {
	p := api.Plan{Threads: 2, Slots: 3, Levels: 4}
	texts := []string{
		"epoch", "clock", "serial", "free", "pin 0", "pin 1", "sleep 0", "sleep 1", "sem 0", "sem 1",
		"head 0", "head 1", "head 2", "head 3",
		"slot 1 state", "slot 1 dead", "slot 1 seq", "slot 1 tall", "slot 1 hold", "slot 1 succ", "slot 1 next 0", "slot 1 next 1", "slot 1 next 2", "slot 1 next 3",
		"slot 2 state", "slot 2 dead", "slot 2 seq", "slot 2 tall", "slot 2 hold", "slot 2 succ", "slot 2 next 0", "slot 2 next 1", "slot 2 next 2", "slot 2 next 3",
		"slot 3 state", "slot 3 dead", "slot 3 seq", "slot 3 tall", "slot 3 hold", "slot 3 succ", "slot 3 next 0", "slot 3 next 1", "slot 3 next 2", "slot 3 next 3",
		"none", "none",
	}
	for at, want := range texts {
		if got := Text(What(p, at)); got != want {
			t.Errorf("at %d stands %s, not %s", at, got, want)
		}
	}
	for at, want := range map[int]string{11: "head 1", 24: "slot 2 state", 43: "slot 3 next 3", 44: "none", -1: "none"} {
		if got := Text(What(p, at)); got != want {
			t.Errorf("at %d stands %s, not %s", at, got, want)
		}
	}
}

// 9.1: spots of each kind, those that there are and those beside them that there are not, in numbers.
func TestSpotsInNumbers(t *testing.T) {
	p := api.Plan{Threads: 2, Slots: 3, Levels: 4, Gen: 5}
	for _, x := range []struct {
		s    api.Spot
		want int
	}{
		{api.Spot{Kind: api.SpotEpoch}, 0}, {api.Spot{Kind: api.SpotClock}, 1}, {api.Spot{Kind: api.SpotSerial}, 2}, {api.Spot{Kind: api.SpotFree}, 3},
		{api.Spot{Kind: api.SpotEpoch, Of: 1}, -1}, {api.Spot{Kind: api.SpotClock, Level: 1}, -1}, {api.Spot{Kind: api.SpotSerial, Of: -1}, -1}, {api.Spot{Kind: api.SpotFree, Level: -1}, -1},
		{api.Spot{Kind: api.SpotPin}, 4}, {api.Spot{Kind: api.SpotPin, Of: 1}, 5}, {api.Spot{Kind: api.SpotPin, Of: 2}, -1}, {api.Spot{Kind: api.SpotPin, Of: -1}, -1}, {api.Spot{Kind: api.SpotPin, Of: 1, Level: 1}, -1},
		{api.Spot{Kind: api.SpotSleep}, 6}, {api.Spot{Kind: api.SpotSleep, Of: 1}, 7}, {api.Spot{Kind: api.SpotSleep, Of: 2}, -1}, {api.Spot{Kind: api.SpotSleep, Of: -2}, -1}, {api.Spot{Kind: api.SpotSleep, Level: 1}, -1},
		{api.Spot{Kind: api.SpotSem}, 8}, {api.Spot{Kind: api.SpotSem, Of: 1}, 9}, {api.Spot{Kind: api.SpotSem, Of: 2}, -1}, {api.Spot{Kind: api.SpotSem, Of: -4}, -1}, {api.Spot{Kind: api.SpotSem, Level: -1}, -1},
		{api.Spot{Kind: api.SpotHead}, 10}, {api.Spot{Kind: api.SpotHead, Level: 1}, 11}, {api.Spot{Kind: api.SpotHead, Level: 3}, 13}, {api.Spot{Kind: api.SpotHead, Level: 4}, -1}, {api.Spot{Kind: api.SpotHead, Level: -1}, -1}, {api.Spot{Kind: api.SpotHead, Of: 1, Level: 1}, -1}, {api.Spot{Kind: api.SpotHead, Of: -1}, -1},
		{api.Spot{Kind: api.SpotState, Of: 1}, 14}, {api.Spot{Kind: api.SpotState, Of: 2}, 24}, {api.Spot{Kind: api.SpotState, Of: 3}, 34}, {api.Spot{Kind: api.SpotState, Of: 4}, -1}, {api.Spot{Kind: api.SpotState}, -1}, {api.Spot{Kind: api.SpotState, Of: -1}, -1}, {api.Spot{Kind: api.SpotState, Of: 2, Level: 1}, -1},
		{api.Spot{Kind: api.SpotDead, Of: 1}, 15}, {api.Spot{Kind: api.SpotDead}, -1}, {api.Spot{Kind: api.SpotDead, Of: 4}, -1}, {api.Spot{Kind: api.SpotDead, Of: 1, Level: 2}, -1},
		{api.Spot{Kind: api.SpotSeq, Of: 2}, 26}, {api.Spot{Kind: api.SpotSeq}, -1}, {api.Spot{Kind: api.SpotSeq, Of: 4}, -1}, {api.Spot{Kind: api.SpotSeq, Of: 1, Level: -1}, -1},
		{api.Spot{Kind: api.SpotTall, Of: 3}, 37}, {api.Spot{Kind: api.SpotTall}, -1}, {api.Spot{Kind: api.SpotTall, Of: 4}, -1}, {api.Spot{Kind: api.SpotTall, Of: 3, Level: 3}, -1},
		{api.Spot{Kind: api.SpotHold, Of: 1}, 18}, {api.Spot{Kind: api.SpotHold}, -1}, {api.Spot{Kind: api.SpotHold, Of: 4}, -1}, {api.Spot{Kind: api.SpotHold, Of: 2, Level: 1}, -1},
		{api.Spot{Kind: api.SpotSucc, Of: 3}, 39}, {api.Spot{Kind: api.SpotSucc}, -1}, {api.Spot{Kind: api.SpotSucc, Of: 4}, -1}, {api.Spot{Kind: api.SpotSucc, Of: 3, Level: 1}, -1},
		{api.Spot{Kind: api.SpotNext, Of: 1}, 20}, {api.Spot{Kind: api.SpotNext, Of: 3, Level: 3}, 43}, {api.Spot{Kind: api.SpotNext, Of: 3, Level: 4}, -1}, {api.Spot{Kind: api.SpotNext, Of: 1, Level: -1}, -1}, {api.Spot{Kind: api.SpotNext, Of: 4}, -1}, {api.Spot{Kind: api.SpotNext}, -1}, {api.Spot{Kind: api.SpotNext, Level: 1}, -1}, {api.Spot{Kind: api.SpotNext, Of: -1, Level: 1}, -1},
		{api.Spot{}, -1}, {api.Spot{Of: 1}, -1}, {api.Spot{Level: 1}, -1}, {api.Spot{Kind: -1}, -1}, {api.Spot{Kind: -15, Of: 1}, -1}, {api.Spot{Kind: 16, Of: 1}, -1}, {api.Spot{Kind: 256 + 1}, -1}, {api.Spot{Kind: 1<<32 + 1}, -1}, {api.Spot{Kind: math.MaxInt, Of: 1}, -1}, {api.Spot{Kind: math.MinInt, Of: 1}, -1},
	} {
		if got := Where(p, x.s); got != x.want {
			t.Errorf("%+v is at %d, not at %d", x.s, got, x.want)
		}
	}
}

// 9.1 and 9.3: in right plans what each word is for, and where what it is for stands, is as all words are laid one behind the other; ahead of the first and behind the last one there is nothing.
func TestRightPlans(t *testing.T) {
	for _, p := range rightPlans() {
		l := inOrder(p)
		if got := plan.Words(p); got != len(l) {
			t.Fatalf("%+v has %d words, not %d", p, got, len(l))
		}
		for at, want := range l {
			if got := What(p, at); got != want {
				t.Fatalf("at %d of %+v stands %+v, not %+v", at, p, got, want)
			}
			if got := Where(p, want); got != at {
				t.Fatalf("%+v of %+v is at %d, not at %d", want, p, got, at)
			}
		}
		for _, at := range append([]int{-2, -1, len(l), len(l) + 1, len(l) + 9}, far...) {
			if got, want := What(p, at), (api.Spot{}); (at < 0 || at >= len(l)) && got != want {
				t.Fatalf("at %d of %+v stands %+v", at, p, got)
			}
		}
	}
}

// 9.1: all kinds, and those below and behind them, with each thread, slot and level from below the first one to behind the last one, and with far numbers.
func TestSpotsOfRightPlans(t *testing.T) {
	for _, p := range edgePlans() {
		most := max(p.Threads, p.Slots)
		for kind := -2; kind <= 18; kind++ {
			for of := -2; of <= most+2; of++ {
				for level := -2; level <= p.Levels+2; level++ {
					checkWhere(t, p, api.Spot{Kind: kind, Of: of, Level: level})
				}
			}
			for _, n := range far {
				for _, m := range append([]int{0, 1, p.Levels - 1}, far...) {
					checkWhere(t, p, api.Spot{Kind: kind, Of: n, Level: m})
					checkWhere(t, p, api.Spot{Kind: kind, Of: m, Level: n})
				}
			}
		}
		for _, kind := range far {
			for of := -1; of <= 3; of++ {
				checkWhere(t, p, api.Spot{Kind: kind, Of: of})
				checkWhere(t, p, api.Spot{Kind: kind, Of: 1, Level: of})
			}
		}
	}
}

// checkWhere holds the place of s in p against the chapter's sentences.
func checkWhere(t *testing.T, p api.Plan, s api.Spot) {
	t.Helper()
	if got, want := Where(p, s), whereOf(p, s); got != want {
		t.Fatalf("%+v of %+v is at %d, not at %d", s, p, got, want)
	}
}

// 9.1: of a plan that is not right no place has a spot, and no spot a place.
func TestWrongPlans(t *testing.T) {
	for _, p := range wrongPlans() {
		for at := -2; at <= 1000; at++ {
			if got := What(p, at); got != (api.Spot{}) {
				t.Fatalf("at %d of %+v stands %+v", at, p, got)
			}
		}
		for _, at := range far {
			if got := What(p, at); got != (api.Spot{}) {
				t.Fatalf("at %d of %+v stands %+v", at, p, got)
			}
		}
		for kind := -1; kind <= 17; kind++ {
			for of := -1; of <= 66; of++ {
				for level := -1; level <= 9; level++ {
					if got := Where(p, api.Spot{Kind: kind, Of: of, Level: level}); got != -1 {
						t.Fatalf("the kind %d of %d, level %d, of %+v is at %d", kind, of, level, p, got)
					}
				}
			}
		}
	}
}

// 9.1: which generation a right plan has changes neither what a word is for nor where it is.
func TestGenerationChangesNothing(t *testing.T) {
	for _, gen := range []uint64{1, 2, 1 << 31, 1<<32 - 1} {
		p, q := api.Plan{Threads: 3, Slots: 4, Levels: 2}, api.Plan{Threads: 3, Slots: 4, Levels: 2, Gen: gen}
		for at := -1; at <= plan.Words(p); at++ {
			s := What(p, at)
			if got := What(q, at); got != s {
				t.Fatalf("at %d of %+v stands %+v, not %+v", at, q, got, s)
			}
			if got, want := Where(q, s), Where(p, s); got != want {
				t.Fatalf("%+v of %+v is at %d, not at %d", s, q, got, want)
			}
		}
	}
}

// 9.2: the text of each kind, with numbers of one and of several digits, 0, below 0, and the least and the greatest ones.
func TestTextInNumbers(t *testing.T) {
	for _, x := range []struct {
		s    api.Spot
		want string
	}{
		{api.Spot{}, "none"}, {api.Spot{Of: 3, Level: 4}, "none"}, {api.Spot{Kind: -1, Of: 3}, "none"}, {api.Spot{Kind: 16, Of: 3}, "none"}, {api.Spot{Kind: 256 + 1}, "none"}, {api.Spot{Kind: 1<<32 + 5}, "none"}, {api.Spot{Kind: math.MaxInt}, "none"}, {api.Spot{Kind: math.MinInt}, "none"}, {api.Spot{Kind: math.MinInt + 1}, "none"},
		{api.Spot{Kind: api.SpotEpoch}, "epoch"}, {api.Spot{Kind: api.SpotClock}, "clock"}, {api.Spot{Kind: api.SpotSerial}, "serial"}, {api.Spot{Kind: api.SpotFree}, "free"},
		{api.Spot{Kind: api.SpotEpoch, Of: 7, Level: 8}, "epoch"}, {api.Spot{Kind: api.SpotFree, Of: -7, Level: -8}, "free"},
		{api.Spot{Kind: api.SpotPin}, "pin 0"}, {api.Spot{Kind: api.SpotPin, Of: 7}, "pin 7"}, {api.Spot{Kind: api.SpotPin, Of: 12, Level: 3}, "pin 12"}, {api.Spot{Kind: api.SpotPin, Of: -1}, "pin -1"}, {api.Spot{Kind: api.SpotPin, Of: math.MinInt}, "pin -9223372036854775808"},
		{api.Spot{Kind: api.SpotSleep}, "sleep 0"}, {api.Spot{Kind: api.SpotSleep, Of: 10}, "sleep 10"}, {api.Spot{Kind: api.SpotSleep, Of: math.MaxInt}, "sleep 9223372036854775807"},
		{api.Spot{Kind: api.SpotSem}, "sem 0"}, {api.Spot{Kind: api.SpotSem, Of: 100}, "sem 100"}, {api.Spot{Kind: api.SpotSem, Of: -20, Level: 5}, "sem -20"},
		{api.Spot{Kind: api.SpotHead}, "head 0"}, {api.Spot{Kind: api.SpotHead, Level: 5}, "head 5"}, {api.Spot{Kind: api.SpotHead, Of: 9, Level: 12}, "head 12"}, {api.Spot{Kind: api.SpotHead, Level: -12}, "head -12"}, {api.Spot{Kind: api.SpotHead, Level: math.MaxInt}, "head 9223372036854775807"},
		{api.Spot{Kind: api.SpotState, Of: 2}, "slot 2 state"}, {api.Spot{Kind: api.SpotState}, "slot 0 state"}, {api.Spot{Kind: api.SpotState, Of: -64, Level: 2}, "slot -64 state"},
		{api.Spot{Kind: api.SpotDead, Of: 64}, "slot 64 dead"}, {api.Spot{Kind: api.SpotSeq, Of: 10}, "slot 10 seq"}, {api.Spot{Kind: api.SpotTall, Of: 9}, "slot 9 tall"}, {api.Spot{Kind: api.SpotHold, Of: math.MaxInt}, "slot 9223372036854775807 hold"}, {api.Spot{Kind: api.SpotSucc, Of: math.MinInt}, "slot -9223372036854775808 succ"},
		{api.Spot{Kind: api.SpotNext, Of: 3, Level: 3}, "slot 3 next 3"}, {api.Spot{Kind: api.SpotNext}, "slot 0 next 0"}, {api.Spot{Kind: api.SpotNext, Of: 64, Level: 10}, "slot 64 next 10"}, {api.Spot{Kind: api.SpotNext, Of: -1, Level: -2}, "slot -1 next -2"}, {api.Spot{Kind: api.SpotNext, Of: math.MaxInt, Level: math.MinInt}, "slot 9223372036854775807 next -9223372036854775808"},
	} {
		if got := Text(x.s); got != x.want {
			t.Errorf("%+v is told %q, not %q", x.s, got, x.want)
		}
	}
}

// 9.2: the text of all kinds, and of those below and behind them, with many numbers, be there such words or not, against the chapter's sentences.
func TestText(t *testing.T) {
	numbers := slices.Concat(far, []int{0, 1, 2, 7, 8, 9, 10, 11, 19, 20, 63, 64, 99, 101, 999, 1000})
	r := rand.New(rand.NewSource(9))
	for range 50 {
		numbers = append(numbers, int(r.Uint64()>>r.Intn(64)))
	}
	several := func(kind int) {
		for _, of := range numbers {
			for _, level := range numbers {
				s := api.Spot{Kind: kind, Of: of, Level: level}
				if got, want := Text(s), textOf(s); got != want {
					t.Fatalf("%+v is told %q, not %q", s, got, want)
				}
			}
		}
	}
	for kind := -3; kind <= 20; kind++ {
		several(kind)
	}
	for _, kind := range []int{math.MinInt, -1<<32 + 9, 255, 256, 257, 1<<32 + 9, math.MaxInt} {
		several(kind)
	}
}

// 9.3: in all right plans each word has a spot of its own, and a text of its own, and stands where its spot is.
func TestEachWordHasItsOwnSpot(t *testing.T) {
	for _, p := range rightPlans() {
		spotAt, textAt := map[api.Spot]int{}, map[string]int{}
		for at := range plan.Words(p) {
			s := What(p, at)
			if s.Kind == api.SpotNone {
				t.Fatalf("at %d of %+v stands nothing", at, p)
			}
			if other, ok := spotAt[s]; ok {
				t.Fatalf("%+v of %+v is at %d and at %d", s, p, other, at)
			}
			if other, ok := textAt[Text(s)]; ok {
				t.Fatalf("%q of %+v is at %d and at %d", Text(s), p, other, at)
			}
			spotAt[s], textAt[Text(s)] = at, at
			if got := Where(p, s); got != at {
				t.Fatalf("%+v of %+v is at %d, not at %d", s, p, got, at)
			}
		}
	}
}

// 9.3: all right plans that there are have as many spots as words, each word at its spot's place.
func TestAllRightPlansHaveTheirSpots(t *testing.T) {
	for threads := 1; threads <= 8; threads++ {
		for slots := 1; slots <= 64; slots++ {
			for levels := 1; levels <= 8; levels++ {
				p := api.Plan{Threads: threads, Slots: slots, Levels: levels}
				l := inOrder(p)
				for _, at := range []int{0, 3, 4, 4 + threads, 4 + 2*threads, 4 + 3*threads, 4 + 3*threads + levels, len(l) - levels - 6, len(l) - levels - 1, len(l) - levels, len(l) - 1} {
					if s := What(p, at); s != l[at] || Where(p, s) != at {
						t.Fatalf("at %d of %+v stands %+v, not %+v", at, p, s, l[at])
					}
				}
				if got := What(p, len(l)); got != (api.Spot{}) {
					t.Fatalf("behind the last word of %+v stands %+v", p, got)
				}
			}
		}
	}
}
