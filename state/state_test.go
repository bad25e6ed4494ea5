package state

import (
	"math"
	"math/rand"
	"strconv"
	"strings"
	"testing"

	"sundial/api"
)

// gens are the edges of what a generation can be; wrongGens are above them.
var (
	gens      = []uint64{0, 1, 2, 5, 9, 10, 0x55555555, 0xAAAAAAAA, 1<<31 - 1, 1 << 31, api.MaxGen - 1, api.MaxGen}
	wrongGens = []uint64{api.MaxGen + 1, api.MaxGen + 2, 1<<32 + 5, 1<<33 - 1, 1 << 63, 1<<63 + 5, math.MaxUint64 - 1, math.MaxUint64}
)

// statuses are those that a slot can have; wrongStatuses are below and above them, with some of which the lowest bits are those of a right one.
var (
	statuses      = []int{api.Free, api.Making, api.Live, api.Taken, api.Gone}
	wrongStatuses = []int{
		-1, -2, -5, math.MinInt32, -1 << 32, -1<<32 + 2, math.MinInt + 4, math.MinInt,
		5, 6, 9, 17, 1<<31 - 1, 1 << 31, 1<<32 - 1, 1 << 32, 1<<32 + 1, 1<<32 + 4, 1<<32 + 5, 3 << 32, math.MaxInt - 1, math.MaxInt,
	}
)

// texts are the chapter's words, found without the package's table.
var texts = map[uint64]string{0: "free", 1: "making", 2: "live", 3: "taken", 4: "gone"}

// cut tells the lowest 32 bits of n by dividing.
func cut(n uint64) uint64 {
	return n % 4294967296
}

// together tells a word by its halves, without shifts and fields.
func together(high, low uint64) uint64 {
	return cut(high)*4294967296 + cut(low)
}

// join tells a new list of all of both.
func join[E any](a, b []E) []E {
	return append(append([]E{}, a...), b...)
}

// allGens and allStatuses are the right ones and the wrong ones.
func allGens() []uint64  { return join(gens, wrongGens) }
func allStatuses() []int { return join(statuses, wrongStatuses) }

// halves are numbers of 32 bits at the edges of generations and of statuses.
func halves() []uint64 {
	l := append([]uint64{}, gens...)
	for _, s := range allStatuses() {
		l = append(l, cut(uint64(s)))
	}
	return l
}

// pair is the halves of a word.
type pair struct{ high, low uint64 }

// pairs are the halves of words, each edge with each, and some by chance.
func pairs() []pair {
	var l []pair
	for _, high := range halves() {
		for _, low := range halves() {
			l = append(l, pair{high, low})
		}
	}
	r := rand.New(rand.NewSource(1))
	for range 2000 {
		l = append(l, pair{uint64(r.Uint32()), uint64(r.Uint32())}, pair{uint64(r.Uint32()), uint64(r.Intn(8))})
	}
	return l
}

// 4.1: the statuses' numbers, as the chapter tells them.
func TestStatusNumbers(t *testing.T) {
	for i, s := range statuses {
		if s != i {
			t.Errorf("the status %s is %d, not %d", texts[uint64(i)], s, i)
		}
	}
}

// 4.1: Of, in numbers: the example, the edges, and numbers of which only the lowest 32 bits count.
func TestOfExamples(t *testing.T) {
	for _, x := range []struct {
		gen    uint64
		status int
		want   uint64
	}{
		{5, api.Live, 5<<32 + 2}, {0, api.Free, 0}, {0, api.Making, 1}, {0, api.Gone, 4}, {1, api.Free, 1 << 32}, {7, api.Taken, 7<<32 + 3},
		{api.MaxGen, api.Free, (1<<32 - 1) << 32}, {api.MaxGen, api.Gone, (1<<32-1)<<32 + 4},
		{5, 5, 5<<32 + 5}, {5, 1<<32 - 1, 6<<32 - 1}, {5, 1 << 31, 5<<32 + 1<<31},
		{5, -1, 6<<32 - 1}, {5, -2, 6<<32 - 2}, {0, math.MinInt32, 1 << 31}, {5, math.MinInt, 5 << 32}, {5, math.MaxInt, 6<<32 - 1},
		{5, 1 << 32, 5 << 32}, {5, 1<<32 + 2, 5<<32 + 2}, {5, -1<<32 + 2, 5<<32 + 2},
		{api.MaxGen + 1, api.Live, 2}, {1<<32 + 5, api.Live, 5<<32 + 2}, {1 << 63, api.Gone, 4},
		{math.MaxUint64, api.Free, (1<<32 - 1) << 32}, {math.MaxUint64, -1, math.MaxUint64}, {math.MaxUint64, math.MaxInt, math.MaxUint64},
	} {
		if got := Of(x.gen, x.status); got != x.want {
			t.Errorf("Of(%#x, %d): %#x, not %#x", x.gen, x.status, got, x.want)
		}
	}
}

// 4.1: Of, of each generation with each status, right ones and wrong ones.
func TestOfIsTheLowestBitsOfBoth(t *testing.T) {
	for _, gen := range allGens() {
		for _, status := range allStatuses() {
			got := Of(gen, status)
			if want := together(gen, uint64(status)); got != want {
				t.Errorf("Of(%#x, %d): %#x, not %#x", gen, status, got, want)
			}
			if g, s := Gen(got), Status(got); g != cut(gen) || s != int(cut(uint64(status))) {
				t.Errorf("the halves of Of(%#x, %d): %#x, %d", gen, status, g, s)
			}
		}
	}
}

// 4.1: the halves, in numbers: a status has no sign.
func TestHalvesExamples(t *testing.T) {
	for _, x := range []struct {
		w, gen uint64
		status int
	}{
		{5<<32 + 2, 5, 2}, {0, 0, 0}, {4, 0, 4}, {1 << 32, 1, 0}, {1<<32 - 1, 0, 1<<32 - 1}, {1 << 31, 0, 1 << 31}, {1 << 63, 1 << 31, 0},
		{0x0123456789ABCDEF, 0x01234567, 0x89ABCDEF}, {0xFEDCBA9876543210, 0xFEDCBA98, 0x76543210},
		{(1<<32-1)<<32 + 4, api.MaxGen, api.Gone}, {math.MaxUint64, api.MaxGen, 1<<32 - 1},
	} {
		if g, s := Gen(x.w), Status(x.w); g != x.gen || s != x.status {
			t.Errorf("Gen, Status of %#x: %#x, %d, not %#x, %d", x.w, g, s, x.gen, x.status)
		}
	}
}

// 4.1: the halves of words of any halves, of which the word is put together again.
func TestHalvesOfWords(t *testing.T) {
	for _, p := range pairs() {
		w := together(p.high, p.low)
		if g, s := Gen(w), Status(w); g != p.high || s != int(p.low) {
			t.Errorf("Gen, Status of %#x: %#x, %d, not %#x, %d", w, g, s, p.high, p.low)
		}
		if got := Of(Gen(w), Status(w)); got != w {
			t.Errorf("of the halves of %#x: %#x", w, got)
		}
	}
}

// 4.1: Is, in numbers: false of a word that a wrong part would fit, were it cut, and of one that is near by.
func TestIsExamples(t *testing.T) {
	for _, x := range []struct {
		w, gen uint64
		status int
		want   bool
	}{
		{5<<32 + 2, 5, api.Live, true}, {0, 0, api.Free, true}, {4, 0, api.Gone, true},
		{(1<<32 - 1) << 32, api.MaxGen, api.Free, true}, {(1<<32-1)<<32 + 4, api.MaxGen, api.Gone, true},
		{5<<32 + 2, 1<<32 + 5, api.Live, false}, {2, api.MaxGen + 1, api.Live, false}, {(1<<32-1)<<32 + 2, math.MaxUint64, api.Live, false},
		{5<<32 + 2, 5, 1<<32 + 2, false}, {5<<32 + 2, 5, -1<<32 + 2, false}, {5 << 32, 5, 1 << 32, false}, {5 << 32, 5, math.MinInt, false},
		{5<<32 + 5, 5, 5, false}, {5<<32 + 9, 5, 9, false}, {6<<32 - 1, 5, -1, false}, {6<<32 - 1, 5, 1<<32 - 1, false},
		{math.MaxUint64, math.MaxUint64, math.MaxInt, false}, {math.MaxUint64, api.MaxGen, -1, false},
		{5<<32 + 2, 4, api.Live, false}, {5<<32 + 2, 6, api.Live, false}, {5<<32 + 2, 5, api.Making, false}, {5<<32 + 2, 5, api.Taken, false},
		{5<<32 + 2, 2, 5, false}, {5 << 32, 5, api.Gone, false}, {5<<32 + 4, 5, api.Free, false}, {1<<63 + 2, 0, api.Live, false}, {1<<31 + 2, 0, api.Live, false},
	} {
		if got := Is(x.w, x.gen, x.status); got != x.want {
			t.Errorf("Is(%#x, %#x, %d): %v, not %v", x.w, x.gen, x.status, got, x.want)
		}
	}
}

// 4.1: of right parts there is just one word, whatever bit of it is another one.
func TestIsOfRightParts(t *testing.T) {
	for _, gen := range gens {
		for _, status := range statuses {
			w := together(gen, uint64(status))
			if !Is(w, gen, status) {
				t.Errorf("Is(%#x, %#x, %d): false", w, gen, status)
			}
			for bit := range 64 {
				if v := w ^ 1<<bit; Is(v, gen, status) {
					t.Errorf("Is(%#x, %#x, %d): true", v, gen, status)
				}
			}
		}
	}
}

// 4.1: of a wrong part there is no word, whatever the other part is: neither the one of its lowest bits nor any other.
func TestIsOfWrongParts(t *testing.T) {
	wrong := func(gen uint64, status int) {
		for _, w := range []uint64{together(gen, uint64(status)), 0, uint64(status), gen, math.MaxUint64} {
			if Is(w, gen, status) {
				t.Errorf("Is(%#x, %#x, %d): true", w, gen, status)
			}
		}
	}
	for _, gen := range wrongGens {
		for _, status := range allStatuses() {
			wrong(gen, status)
		}
	}
	for _, gen := range gens {
		for _, status := range wrongStatuses {
			wrong(gen, status)
		}
	}
}

// 4.2: Next, in numbers: the example, and the edges.
func TestNextExamples(t *testing.T) {
	for _, x := range []struct{ w, want uint64 }{
		{5<<32 + 2, 6 << 32}, {0, 1 << 32}, {3, 1 << 32}, {4, 1 << 32}, {1<<32 - 1, 1 << 32}, {5<<32 + 17, 6 << 32},
		{(1<<31-1)<<32 + 3, 1 << 63}, {1<<63 + 3, (1<<31 + 1) << 32},
		{(1<<32-2)<<32 + 3, (1<<32 - 1) << 32}, {(1<<32-2)<<32 + 4, (1<<32 - 1) << 32},
		{(1<<32 - 1) << 32, (1<<32-1)<<32 + 4}, {(1<<32-1)<<32 + 3, (1<<32-1)<<32 + 4}, {(1<<32-1)<<32 + 4, (1<<32-1)<<32 + 4},
		{math.MaxUint64, (1<<32-1)<<32 + 4},
	} {
		if got := Next(x.w); got != x.want {
			t.Errorf("Next(%#x): %#x, not %#x", x.w, got, x.want)
		}
	}
}

// 4.2: Next, of words of any halves: it hangs on the generation alone.
func TestNextOfWords(t *testing.T) {
	for _, p := range pairs() {
		want := together(p.high+1, 0)
		if p.high == 4294967295 {
			want = together(p.high, 4)
		}
		if w := together(p.high, p.low); Next(w) != want {
			t.Errorf("Next(%#x): %#x, not %#x", w, Next(w), want)
		}
	}
}

// 4.2: Text, in letters: the example, each status, and the edges.
func TestTextExamples(t *testing.T) {
	for _, x := range []struct {
		w    uint64
		want string
	}{
		{5<<32 + 2, "5 live"}, {0, "0 free"}, {1, "0 making"}, {2, "0 live"}, {3, "0 taken"}, {4, "0 gone"}, {1 << 32, "1 free"},
		{10<<32 + 1, "10 making"}, {1<<63 + 3, "2147483648 taken"},
		{(1<<32 - 2) << 32, "4294967294 free"}, {(1<<32 - 1) << 32, "4294967295 free"}, {(1<<32-1)<<32 + 4, "4294967295 gone"},
		{5, "0 5"}, {6, "0 6"}, {17, "0 17"}, {5<<32 + 5, "5 5"}, {5<<32 + 100, "5 100"},
		{1<<31 - 1, "0 2147483647"}, {1 << 31, "0 2147483648"}, {1<<32 - 1, "0 4294967295"}, {math.MaxUint64, "4294967295 4294967295"},
	} {
		if got := Text(x.w); got != x.want {
			t.Errorf("Text(%#x): %q, not %q", x.w, got, x.want)
		}
	}
}

// 4.2: Text, of words of any halves: each has one of its own.
func TestTextOfWords(t *testing.T) {
	seen := map[string]uint64{}
	for _, p := range pairs() {
		w := together(p.high, p.low)
		called, ok := texts[p.low]
		if !ok {
			called = strconv.FormatUint(p.low, 10)
		}
		got := Text(w)
		if want := strings.Join([]string{strconv.FormatUint(p.high, 10), called}, " "); got != want {
			t.Errorf("Text(%#x): %q, not %q", w, got, want)
		}
		if old, ok := seen[got]; ok && old != w {
			t.Errorf("%q is the text of %#x and of %#x", got, old, w)
		}
		seen[got] = w
	}
}

// handBack hands a slot back so many times, of one status and another: each time it must be free, of a generation that it never had, or gone for good.
func handBack(t *testing.T, w uint64, times int) {
	t.Helper()
	had := map[uint64]bool{Gen(w): true}
	for range times {
		last := Gen(w) == api.MaxGen
		w = Next(Of(Gen(w), statuses[len(had)%len(statuses)]))
		if last {
			if !Is(w, api.MaxGen, api.Gone) {
				t.Errorf("handed back in the last generation: %#x", w)
			}
			continue
		}
		if had[Gen(w)] || Status(w) != api.Free {
			t.Errorf("handed back: %#x, of a generation that came ahead of it, or not free", w)
			return
		}
		had[Gen(w)] = true
	}
}

// 4.3: a slot that is handed back again and again never has a generation again; behind the last one it is gone for good.
func TestNoGenerationComesAgain(t *testing.T) {
	handBack(t, 0, 100000)
	for _, gen := range gens {
		handBack(t, Of(gen, api.Taken), 1000)
	}
	handBack(t, Of(api.MaxGen-20000, api.Taken), 30000)
}

// 4.3: what is handed back is of a greater generation, or gone, wherever the slot began; so no walk comes round.
func TestGenerationsRise(t *testing.T) {
	gone := together(4294967295, 4)
	for _, p := range pairs() {
		w := together(p.high, p.low)
		next := Next(w)
		if Gen(next) <= Gen(w) && next != gone {
			t.Errorf("Next(%#x): %#x", w, next)
		}
		if p.high == 4294967295 && next != gone {
			t.Errorf("Next(%#x): %#x, not gone", w, next)
		}
	}
}

// 4.3: a state that was handed back is no more that of its generation, whatever the status; of the last generation it is Gone, and no other.
func TestOldStateFitsNoMore(t *testing.T) {
	for _, gen := range gens {
		next := Next(Of(gen, api.Taken))
		for _, status := range statuses {
			want := gen == api.MaxGen && status == api.Gone
			if got := Is(next, gen, status); got != want {
				t.Errorf("Is(%#x, %#x, %d): %v, not %v", next, gen, status, got, want)
			}
		}
	}
}
