package refer

import (
	"math"
	"math/rand"
	"testing"

	"sundial/api"
)

const topIndex = 1<<31 - 1

// gens are the edges of what a generation can be; wrongGens are above them.
var (
	gens      = []uint64{0, 1, 2, 3, 0xAAAAAAAA, 0x55555555, 1<<31 - 1, 1 << 31, api.MaxGen - 1, api.MaxGen}
	wrongGens = []uint64{api.MaxGen + 1, api.MaxGen + 2, 1<<33 - 1, 1<<32 + 7, 1 << 63, math.MaxUint64 - 1, math.MaxUint64}
)

// indexes are the edges of what an index can be; wrongIndexes are below and above them.
var (
	indexes      = []int{1, 2, 3, 5, api.MaxSlots, 0x2AAAAAAA, 0x55555555, 1 << 30, topIndex - 1, topIndex}
	wrongIndexes = []int{0, -1, -2, -topIndex, math.MinInt32, math.MinInt + 1, math.MinInt, topIndex + 1, topIndex + 2, 1<<32 - 1, 1 << 32, 1<<32 + 1, math.MaxInt - 1, math.MaxInt}
)

// made is a word put together by sums, and the parts of which it was.
type made struct {
	word   uint64
	gen    uint64
	index  int
	marked bool
}

// makeWord goes without shifts and fields: what it tells hangs on the document's sentence alone.
func makeWord(gen uint64, index int, marked bool) made {
	w := gen*4294967296 + uint64(index)*2
	if marked {
		w++
	}
	return made{w, gen, index, marked}
}

// words are all words of the edges, the index 0 and both marks among them, and some by chance.
func words() []made {
	var l []made
	for _, gen := range gens {
		for _, index := range append([]int{0}, indexes...) {
			l = append(l, makeWord(gen, index, false), makeWord(gen, index, true))
		}
	}
	r := rand.New(rand.NewSource(1))
	for range 2000 {
		l = append(l, makeWord(uint64(r.Uint32()), int(r.Int31()), r.Intn(2) == 1))
	}
	return l
}

// check holds the three parts of w, as the calls tell them, against those that are wanted.
func check(t *testing.T, what string, w uint64, want made) {
	t.Helper()
	if w != want.word {
		t.Errorf("%s of %#x, %d, %v: %#x, not %#x", what, want.gen, want.index, want.marked, w, want.word)
	}
	if g, i, m := Gen(w), Index(w), Marked(w); g != want.gen || i != want.index || m != want.marked {
		t.Errorf("%s: the parts of %#x: %#x, %d, %v, not %#x, %d, %v", what, w, g, i, m, want.gen, want.index, want.marked)
	}
	if n := None(w); n != (want.index == 0) {
		t.Errorf("%s: None(%#x): %v", what, w, n)
	}
}

// 2.1: the examples, and the edges, in numbers.
func TestOfExamples(t *testing.T) {
	for _, x := range []struct {
		gen   uint64
		index int
		want  uint64
	}{
		{3, 5, 3<<32 + 10}, {0, 1, 2}, {1, 1, 1<<32 + 2}, {0, topIndex, 1<<32 - 2},
		{api.MaxGen, 1, (1<<32-1)<<32 + 2}, {api.MaxGen, topIndex, math.MaxUint64 - 1},
		{1 << 31, 1 << 30, 1<<63 + 1<<31},
		{0, 0, 0}, {3, 0, 0}, {api.MaxGen, 0, 0}, {3, -1, 0}, {3, topIndex + 1, 0}, {0, 1<<32 + 1, 0},
		{api.MaxGen + 1, 5, 0}, {1<<32 + 3, 1, 0}, {math.MaxUint64, topIndex, 0}, {math.MaxUint64, math.MinInt, 0},
	} {
		if got := Of(x.gen, x.index); got != x.want {
			t.Errorf("Of(%#x, %d): %#x, not %#x", x.gen, x.index, got, x.want)
		}
	}
}

// 2.1: Of, of all generations and indexes that there are at the edges.
func TestOfHasItsParts(t *testing.T) {
	for _, gen := range gens {
		for _, index := range indexes {
			check(t, "Of", Of(gen, index), makeWord(gen, index, false))
		}
	}
}

// 2.1: a wrong part makes it none, whatever the other is.
func TestOfWrongParts(t *testing.T) {
	wrong := func(gen uint64, index int) {
		if got := Of(gen, index); got != 0 {
			t.Errorf("Of(%#x, %d): %#x, not 0", gen, index, got)
		}
	}
	for _, gen := range wrongGens {
		for _, index := range append(append([]int{}, indexes...), wrongIndexes...) {
			wrong(gen, index)
		}
	}
	for _, index := range wrongIndexes {
		for _, gen := range gens {
			wrong(gen, index)
		}
	}
}

// 2.1: the parts of words that Of makes and of such as it never does, and which of them are none.
func TestPartsOfWords(t *testing.T) {
	for _, w := range words() {
		check(t, "the word", w.word, w)
	}
}

// 2.1: of none is each word with the index 0, and no other.
func TestNone(t *testing.T) {
	for _, x := range []struct {
		r    uint64
		want bool
	}{
		{0, true}, {1, true}, {5 << 32, true}, {5<<32 + 1, true}, {1 << 63, true}, {(1<<32 - 1) << 32, true}, {(1<<32-1)<<32 + 1, true},
		{2, false}, {3, false}, {1 << 31, false}, {1<<31 + 1, false}, {5<<32 + 2, false}, {math.MaxUint64, false}, {math.MaxUint64 - 1, false},
	} {
		if got := None(x.r); got != x.want {
			t.Errorf("None(%#x): %v, not %v", x.r, got, x.want)
		}
	}
}

// 2.2: the example, and the edges, in numbers.
func TestMarkExamples(t *testing.T) {
	for _, x := range []struct{ plain, marked uint64 }{
		{3<<32 + 10, 3<<32 + 11}, {0, 1}, {2, 3}, {5 << 32, 5<<32 + 1}, {1<<32 - 2, 1<<32 - 1}, {1 << 63, 1<<63 + 1},
		{math.MaxUint64 - 1, math.MaxUint64},
	} {
		if Marked(x.plain) || !Marked(x.marked) {
			t.Errorf("Marked of %#x, %#x: %v, %v", x.plain, x.marked, Marked(x.plain), Marked(x.marked))
		}
		if a, b := Mark(x.plain), Mark(x.marked); a != x.marked || b != x.marked {
			t.Errorf("Mark of %#x, %#x: %#x, %#x", x.plain, x.marked, a, b)
		}
		if a, b := Plain(x.plain), Plain(x.marked); a != x.plain || b != x.plain {
			t.Errorf("Plain of %#x, %#x: %#x, %#x", x.plain, x.marked, a, b)
		}
	}
}

// 2.2 and 2.3: the mark is set or taken away, and neither of the other parts moves.
func TestMarkMovesNoOtherPart(t *testing.T) {
	for _, w := range words() {
		check(t, "Mark", Mark(w.word), makeWord(w.gen, w.index, true))
		check(t, "Plain", Plain(w.word), makeWord(w.gen, w.index, false))
		check(t, "Plain behind Mark", Plain(Mark(w.word)), makeWord(w.gen, w.index, false))
		check(t, "Mark behind Plain", Mark(Plain(w.word)), makeWord(w.gen, w.index, true))
	}
}

// 2.3: a word is put together again of its three parts, wherever its index is one that Of takes.
func TestReferenceIsToldByItsParts(t *testing.T) {
	for _, w := range words() {
		r := Of(Gen(w.word), Index(w.word))
		if w.index == 0 {
			if r != 0 {
				t.Errorf("of the parts of %#x, whose index is 0: %#x", w.word, r)
			}
			continue
		}
		if Marked(w.word) {
			r = Mark(r)
		}
		if r != w.word {
			t.Errorf("of the parts of %#x: %#x", w.word, r)
		}
	}
}

// 2.3: two references are the same just if all three parts are.
func TestOtherPartsOtherReference(t *testing.T) {
	seen := map[uint64]made{}
	for _, gen := range gens {
		for _, index := range indexes {
			for _, marked := range []bool{false, true} {
				r := Of(gen, index)
				if marked {
					r = Mark(r)
				}
				if old, ok := seen[r]; ok {
					t.Errorf("%#x is of %#x, %d, %v and of %#x, %d, %v", r, old.gen, old.index, old.marked, gen, index, marked)
				}
				seen[r] = made{r, gen, index, marked}
			}
		}
	}
}
