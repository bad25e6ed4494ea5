package deed

import (
	"math"
	"math/big"
	"math/rand"
	"slices"
	"strings"
	"testing"

	"sundial/api"
	"sundial/cells"
)

// numbers are the edges of a word.
var numbers = []uint64{
	0, 1, 2, 3, 5, 9, 10, 1<<31 - 1, 1 << 31, 1<<32 - 1, 1 << 32, 1<<32 + 1, 1<<63 - 1, 1 << 63, 1<<63 + 1, math.MaxUint64 - 1, math.MaxUint64,
}

// kinds are those of the four; wrongKinds are 0 and those below and above them, with some of which the lowest bits are those of one of the four.
var (
	kinds      = []int{api.Load, api.Store, api.Swap, api.Add}
	wrongKinds = []int{
		0, -1, -2, -3, -4, -5, -256 + 2, -1 << 32, -1<<32 + 1, -1<<32 + 3, math.MinInt32, math.MinInt, math.MinInt + 1, math.MinInt + 4,
		5, 6, 7, 8, 9, 16 + 1, 256, 256 + 2, 1<<16 + 3, 1<<31 - 1, 1 << 31, 1 << 32, 1<<32 + 1, 1<<32 + 2, 1<<32 + 3, 1<<32 + 4, 1<<62 + 2, math.MaxInt - 1, math.MaxInt,
	}
)

// bys are references, and words that are none: they change nothing.
var bys = []uint64{0, 1, 2, 3, 7, 1 << 32, 1<<32 + 2, 1<<32 + 3, 1 << 63, math.MaxUint64}

// places are those of the first words and the last ones of a memory of n words, the ones about them, and such as no memory has.
func places(n int) []int {
	return []int{
		0, 1, n / 2, n - 2, n - 1, n, n + 1, 2 * n, 4095, 4096, 4097, 1 << 16, math.MaxInt32, 1 << 32, 1<<32 + 1, 1 << 62, math.MaxInt - 1, math.MaxInt,
		-1, -2, -n, -n - 1, -4096, math.MinInt32, -1 << 32, -1<<32 + 1, -1 << 62, math.MinInt + 1, math.MinInt,
	}
}

// allKinds are the right ones and the wrong ones.
func allKinds() []int {
	return append(append([]int{}, kinds...), wrongKinds...)
}

// sum tells two words together, as they are when all bits above the 64th are left out.
func sum(a, b uint64) uint64 {
	n := new(big.Int).Add(new(big.Int).SetUint64(a), new(big.Int).SetUint64(b))
	return n.Mod(n, new(big.Int).Lsh(big.NewInt(1), 64)).Uint64()
}

// becomes tells, by the chapter's sentences, what w becomes by d.
func becomes(w uint64, d api.Deed) uint64 {
	switch {
	case d.Kind == 2:
		return d.A
	case d.Kind == 3 && d.A == w:
		return d.B
	case d.Kind == 4:
		return sum(w, d.A)
	}
	return w
}

// finds tells what d finds in the words of l, and what they are then.
func finds(l []uint64, d api.Deed) (uint64, []uint64) {
	l = slices.Clone(l)
	if d.At < 0 || d.At >= len(l) || d.Kind < 1 || d.Kind > 4 {
		return 0, l
	}
	found := l[d.At]
	l[d.At] = becomes(found, d)
	return found, l
}

// memory makes a memory of the words of l.
func memory(t *testing.T, l ...uint64) *cells.Cells {
	t.Helper()
	c, err := cells.Of(l)
	if c == nil || err != api.OK {
		t.Fatalf("a memory of %d words: %v, %d", len(l), c, err)
	}
	return c
}

// does asks whether d, done to a memory of the words of l, finds what it should, and makes of them what it should.
func does(t *testing.T, l []uint64, d api.Deed) {
	t.Helper()
	c := memory(t, l...)
	found, words := finds(l, d)
	if got := Do(c, d); got != found {
		t.Fatalf("%+v of %d words finds %d, not %d", d, len(l), got, found)
	}
	if got := c.Words(); !slices.Equal(got, words) {
		t.Fatalf("%+v of %v makes %v, not %v", d, l, got, words)
	}
}

// chance tells n words, some of them edges.
func chance(r *rand.Rand, n int) []uint64 {
	l := make([]uint64, n)
	for i := range l {
		l[i] = r.Uint64()
		if r.Intn(2) == 0 {
			l[i] = numbers[r.Intn(len(numbers))]
		}
	}
	return l
}

// 7.1: the kinds' numbers, as package api tells them, are those that the tests' own sentences ask for.
func TestKinds(t *testing.T) {
	if !slices.Equal(kinds, []int{1, 2, 3, 4}) {
		t.Fatalf("the kinds are %v", kinds)
	}
}

// 7.1: the chapter's example, and others of each kind, in numbers.
func TestDoExamples(t *testing.T) {
	const most = math.MaxUint64
	for _, x := range []struct {
		d     api.Deed
		found uint64
		words []uint64
	}{
		{api.Deed{Kind: api.Load, At: 3}, 5, []uint64{0, most, 7, 5}},
		{api.Deed{Kind: api.Load, At: 1, A: 6, B: 7, By: 8}, most, []uint64{0, most, 7, 5}},
		{api.Deed{Kind: api.Load, At: 4}, 0, []uint64{0, most, 7, 5}},
		{api.Deed{Kind: api.Store, At: 3, A: 6}, 5, []uint64{0, most, 7, 6}},
		{api.Deed{Kind: api.Store, At: 1, A: 0, B: 9}, most, []uint64{0, 0, 7, 5}},
		{api.Deed{Kind: api.Store, At: 0, A: most, By: 2}, 0, []uint64{most, most, 7, 5}},
		{api.Deed{Kind: api.Store, At: -1, A: 6}, 0, []uint64{0, most, 7, 5}},
		{api.Deed{Kind: api.Swap, At: 3, A: 5, B: 6}, 5, []uint64{0, most, 7, 6}},
		{api.Deed{Kind: api.Swap, At: 3, A: 4, B: 6}, 5, []uint64{0, most, 7, 5}},
		{api.Deed{Kind: api.Swap, At: 3, A: 6, B: 5}, 5, []uint64{0, most, 7, 5}},
		{api.Deed{Kind: api.Swap, At: 2, A: 7, B: 7, By: 1}, 7, []uint64{0, most, 7, 5}},
		{api.Deed{Kind: api.Swap, At: 2, A: 8, B: 8}, 7, []uint64{0, most, 7, 5}},
		{api.Deed{Kind: api.Swap, At: 0, A: 0, B: most}, 0, []uint64{most, most, 7, 5}},
		{api.Deed{Kind: api.Swap, At: 1, A: most, B: 0}, most, []uint64{0, 0, 7, 5}},
		{api.Deed{Kind: api.Swap, At: 4, A: 0, B: 6}, 0, []uint64{0, most, 7, 5}},
		{api.Deed{Kind: api.Add, At: 3, A: 6, B: 1}, 5, []uint64{0, most, 7, 11}},
		{api.Deed{Kind: api.Add, At: 3, A: 0}, 5, []uint64{0, most, 7, 5}},
		{api.Deed{Kind: api.Add, At: 3, A: most}, 5, []uint64{0, most, 7, 4}},
		{api.Deed{Kind: api.Add, At: 1, A: 1}, most, []uint64{0, 0, 7, 5}},
		{api.Deed{Kind: api.Add, At: 1, A: most, By: 3}, most, []uint64{0, most - 1, 7, 5}},
		{api.Deed{Kind: api.Add, At: 4, A: 6}, 0, []uint64{0, most, 7, 5}},
		{api.Deed{Kind: 0, At: 3, A: 5, B: 6}, 0, []uint64{0, most, 7, 5}},
		{api.Deed{Kind: 5, At: 3, A: 5, B: 6}, 0, []uint64{0, most, 7, 5}},
		{api.Deed{Kind: -1, At: 3, A: 5, B: 6}, 0, []uint64{0, most, 7, 5}},
	} {
		c := memory(t, 0, most, 7, 5)
		if found := Do(c, x.d); found != x.found {
			t.Errorf("%+v finds %d, not %d", x.d, found, x.found)
		}
		if words := c.Words(); !slices.Equal(words, x.words) {
			t.Errorf("%+v makes %v, not %v", x.d, words, x.words)
		}
	}
}

// 7.1: the chapter's example, and others of each kind, in numbers.
func TestAfterExamples(t *testing.T) {
	const most = math.MaxUint64
	for _, x := range []struct {
		w    uint64
		d    api.Deed
		want uint64
	}{
		{5, api.Deed{Kind: api.Swap, At: 3, A: 5, B: 6}, 6}, {4, api.Deed{Kind: api.Swap, At: 3, A: 5, B: 6}, 4}, {6, api.Deed{Kind: api.Swap, At: 3, A: 5, B: 6}, 6},
		{5, api.Deed{Kind: api.Swap, A: 5, B: 5}, 5}, {4, api.Deed{Kind: api.Swap, A: 5, B: 5}, 4}, {0, api.Deed{Kind: api.Swap, A: 0, B: 0}, 0},
		{0, api.Deed{Kind: api.Swap, B: most}, most}, {most, api.Deed{Kind: api.Swap, A: most}, 0}, {1, api.Deed{Kind: api.Swap, B: most}, 1},
		{5, api.Deed{Kind: api.Swap, A: 5 + 1<<32, B: 6}, 5}, {5, api.Deed{Kind: api.Swap, A: 4, B: 5}, 5},
		{5, api.Deed{Kind: api.Load, A: 6, B: 7, By: 8}, 5}, {0, api.Deed{Kind: api.Load, A: 6}, 0}, {most, api.Deed{Kind: api.Load}, most},
		{5, api.Deed{Kind: api.Store, A: 6, B: 7}, 6}, {5, api.Deed{Kind: api.Store, B: 7}, 0}, {5, api.Deed{Kind: api.Store, A: 5, B: 7}, 5}, {0, api.Deed{Kind: api.Store, A: most}, most},
		{5, api.Deed{Kind: api.Add, A: 6, B: 7}, 11}, {5, api.Deed{Kind: api.Add, B: 7}, 5}, {5, api.Deed{Kind: api.Add, A: most}, 4}, {most, api.Deed{Kind: api.Add, A: 1}, 0},
		{most, api.Deed{Kind: api.Add, A: most}, most - 1}, {1 << 63, api.Deed{Kind: api.Add, A: 1 << 63}, 0}, {1<<32 - 1, api.Deed{Kind: api.Add, A: 1}, 1 << 32},
		{5, api.Deed{}, 5}, {5, api.Deed{A: 5, B: 6}, 5}, {5, api.Deed{Kind: 5, A: 5, B: 6}, 5}, {5, api.Deed{Kind: -1, A: 5, B: 6}, 5}, {5, api.Deed{Kind: 1<<32 + 2, A: 6}, 5},
	} {
		if got := After(x.w, x.d); got != x.want {
			t.Errorf("After(%d, %+v) is %d, not %d", x.w, x.d, got, x.want)
		}
		if got := Changes(x.w, x.d); got != (x.w != x.want) {
			t.Errorf("Changes(%d, %+v) is %t", x.w, x.d, got)
		}
	}
}

// 7.1: After and Changes, of all kinds and edges, against the chapter's sentences; neither By nor the place changes anything.
func TestAfter(t *testing.T) {
	for _, kind := range allKinds() {
		for _, w := range numbers {
			for _, a := range numbers {
				for _, b := range numbers {
					d := api.Deed{Kind: kind, A: a, B: b}
					want := becomes(w, d)
					if got := After(w, d); got != want {
						t.Fatalf("After(%d, %+v) is %d, not %d", w, d, got, want)
					}
					if got := Changes(w, d); got != (want != w) {
						t.Fatalf("Changes(%d, %+v) is %t", w, d, got)
					}
				}
			}
		}
	}
}

// 7.1: what a word becomes hangs neither on By nor on the place.
func TestAfterOfOtherByAndPlaces(t *testing.T) {
	for _, kind := range allKinds() {
		for _, by := range bys {
			for _, at := range places(4) {
				for _, a := range []uint64{0, 4, 5, math.MaxUint64} {
					d := api.Deed{Kind: kind, At: at, A: a, B: 6, By: by}
					if got, want := After(5, d), becomes(5, d); got != want || Changes(5, d) != (want != 5) {
						t.Fatalf("After(5, %+v) is %d, not %d; Changes is %t", d, got, want, Changes(5, d))
					}
				}
			}
		}
	}
}

// 7.1: Do, of all kinds, at all places, with words that stand there and such as don't.
func TestDo(t *testing.T) {
	r := rand.New(rand.NewSource(1))
	for _, n := range []int{0, 1, 2, 3, 8, 64, 4096} {
		l := chance(r, n)
		for _, kind := range allKinds() {
			for _, at := range places(n) {
				if n == 4096 && (kind < -1 || kind > 5) && at > 0 && at < n-1 {
					continue
				}
				stands := uint64(0)
				if at >= 0 && at < n {
					stands = l[at]
				}
				for _, d := range []api.Deed{
					{Kind: kind, At: at},
					{Kind: kind, At: at, A: stands, B: stands},
					{Kind: kind, At: at, A: stands, B: stands + 1},
					{Kind: kind, At: at, A: stands + 1, B: stands},
					{Kind: kind, At: at, A: stands - 1, B: stands + 1},
					{Kind: kind, At: at, A: math.MaxUint64, B: 0, By: 1<<32 + 2},
				} {
					does(t, l, d)
				}
			}
		}
	}
}

// 7.1: Do, of all edges of words and numbers.
func TestDoOfNumbers(t *testing.T) {
	for _, kind := range []int{-1, 0, 1, 2, 3, 4, 5} {
		for _, stands := range numbers {
			for _, a := range numbers {
				for _, b := range numbers {
					does(t, []uint64{77, stands, 78}, api.Deed{Kind: kind, At: 1, A: a, B: b})
				}
			}
		}
	}
}

// 7.1 and the chapter's beginning: By changes nothing of what a deed does and finds.
func TestByChangesNothing(t *testing.T) {
	for _, kind := range allKinds() {
		for at := -1; at <= 3; at++ {
			for _, a := range []uint64{0, 5, 6, math.MaxUint64} {
				c := memory(t, 4, 5, 6)
				found := Do(c, api.Deed{Kind: kind, At: at, A: a, B: 9})
				for _, by := range bys {
					other := memory(t, 4, 5, 6)
					if got := Do(other, api.Deed{Kind: kind, At: at, A: a, B: 9, By: by}); got != found || !slices.Equal(other.Words(), c.Words()) {
						t.Fatalf("kind %d at %d of %d by %d: finds %d and makes %v, not %d and %v", kind, at, a, by, got, other.Words(), found, c.Words())
					}
				}
			}
		}
	}
}

// 7.1 and the chapter's beginning: a deed of another kind finds 0, and does nothing, wherever it stands.
func TestNone(t *testing.T) {
	l := []uint64{1, 2, 3, math.MaxUint64}
	for _, kind := range wrongKinds {
		c := memory(t, l...)
		for _, at := range places(4) {
			for _, a := range []uint64{0, 1, 2, 3, math.MaxUint64} {
				d := api.Deed{Kind: kind, At: at, A: a, B: a + 5, By: 7}
				if found := Do(c, d); found != 0 || !slices.Equal(c.Words(), l) {
					t.Fatalf("%+v finds %d, and makes %v", d, found, c.Words())
				}
				for _, w := range l {
					if After(w, d) != w || Changes(w, d) {
						t.Fatalf("%+v of %d makes %d", d, w, After(w, d))
					}
				}
				if text := Text(d); text != "none" {
					t.Fatalf("the text of %+v is %q", d, text)
				}
			}
		}
	}
}

// 7.1: at a nil memory, and at one of no words, all deeds find 0, and a memory of no words has none then.
func TestNoMemory(t *testing.T) {
	none, _ := cells.New(0)
	for _, c := range []*cells.Cells{nil, none, new(cells.Cells)} {
		for _, kind := range allKinds() {
			for _, at := range places(3) {
				for _, a := range numbers {
					for _, by := range bys {
						d := api.Deed{Kind: kind, At: at, A: a, B: 9, By: by}
						if found := Do(c, d); found != 0 || c.Len() != 0 || len(c.Words()) != 0 {
							t.Fatalf("%+v of no memory finds %d, and makes %v", d, found, c.Words())
						}
					}
				}
			}
		}
	}
}

// 7.2: the texts in full, of each kind, with By and without it.
func TestText(t *testing.T) {
	const most = math.MaxUint64
	for _, x := range []struct {
		d    api.Deed
		want string
	}{
		{api.Deed{Kind: api.Swap, At: 3, A: 5, B: 6}, "swap 3 5 6"},
		{api.Deed{Kind: api.Swap, At: 3, A: 5, B: 6, By: 7}, "swap 3 5 6 by 7"},
		{api.Deed{Kind: api.Swap}, "swap 0 0 0"},
		{api.Deed{Kind: api.Swap, By: 1}, "swap 0 0 0 by 1"},
		{api.Deed{Kind: api.Swap, At: math.MinInt, A: most, B: most, By: most}, "swap -9223372036854775808 18446744073709551615 18446744073709551615 by 18446744073709551615"},
		{api.Deed{Kind: api.Load, At: 3, A: 5, B: 6}, "load 3"},
		{api.Deed{Kind: api.Load, At: 3, A: 5, B: 6, By: 7}, "load 3 by 7"},
		{api.Deed{Kind: api.Load}, "load 0"},
		{api.Deed{Kind: api.Load, At: -2}, "load -2"},
		{api.Deed{Kind: api.Load, At: math.MaxInt, By: 1 << 63}, "load 9223372036854775807 by 9223372036854775808"},
		{api.Deed{Kind: api.Store, At: 3, A: 5, B: 6}, "store 3 5"},
		{api.Deed{Kind: api.Store, At: 3, A: 5, B: 6, By: 7}, "store 3 5 by 7"},
		{api.Deed{Kind: api.Store}, "store 0 0"},
		{api.Deed{Kind: api.Store, At: -1, A: most}, "store -1 18446744073709551615"},
		{api.Deed{Kind: api.Store, At: 4095, A: 1 << 63, By: 10}, "store 4095 9223372036854775808 by 10"},
		{api.Deed{Kind: api.Add, At: 3, A: 5, B: 6}, "add 3 5"},
		{api.Deed{Kind: api.Add, At: 3, A: 5, B: 6, By: 7}, "add 3 5 by 7"},
		{api.Deed{Kind: api.Add}, "add 0 0"},
		{api.Deed{Kind: api.Add, At: 100, A: most, By: 1<<32 + 2}, "add 100 18446744073709551615 by 4294967298"},
		{api.Deed{Kind: api.Add, At: -4096, A: 1000}, "add -4096 1000"},
		{api.Deed{}, "none"},
		{api.Deed{At: 3, A: 5, B: 6, By: 7}, "none"},
		{api.Deed{Kind: 5, At: 3, A: 5, B: 6, By: 7}, "none"},
		{api.Deed{Kind: -1, At: 3, A: 5, B: 6, By: 7}, "none"},
	} {
		if got := Text(x.d); got != x.want {
			t.Errorf("the text of %+v is %q, not %q", x.d, got, x.want)
		}
	}
}

// 7.2: the texts of all edges of places and numbers, whose digits are told here by other means than the package's.
func TestTextParts(t *testing.T) {
	names := map[int]string{1: "load", 2: "store", 3: "swap", 4: "add"}
	for _, kind := range kinds {
		for _, at := range places(64) {
			for _, a := range numbers {
				for _, by := range bys {
					d := api.Deed{Kind: kind, At: at, A: a, B: a / 3, By: by}
					want := names[kind] + " " + big.NewInt(int64(at)).String()
					if kind != 1 {
						want += " " + new(big.Int).SetUint64(a).String()
					}
					if kind == 3 {
						want += " " + new(big.Int).SetUint64(a/3).String()
					}
					if by != 0 {
						want += " by " + new(big.Int).SetUint64(by).String()
					}
					if got := Text(d); got != want || strings.TrimSpace(got) != got {
						t.Fatalf("the text of %+v is %q, not %q", d, got, want)
					}
				}
			}
		}
	}
}

// 7.3: of each deed of a long row, no word but its own is another one behind it, and that one is as After says; a slow memory tells so too.
func TestNoWordButItsOwn(t *testing.T) {
	r := rand.New(rand.NewSource(2))
	for _, n := range []int{0, 1, 2, 5, 17, 100} {
		slow := chance(r, n)
		c := memory(t, slow...)
		for range 5000 {
			d := api.Deed{Kind: r.Intn(7) - 1, At: r.Intn(n+4) - 2, A: chance(r, 1)[0], B: chance(r, 1)[0], By: bys[r.Intn(len(bys))]}
			if r.Intn(2) == 0 {
				d.A = c.Load(d.At)
			}
			was := c.Words()
			found := Do(c, d)
			is := c.Words()
			if len(is) != n {
				t.Fatalf("%+v makes %d words of %d", d, len(is), n)
			}
			for at, w := range was {
				if at != d.At && is[at] != w {
					t.Fatalf("%+v turns the word at %d, %d, into %d", d, at, w, is[at])
				}
				if at == d.At && (is[at] != After(w, d) || (is[at] != w) != Changes(w, d)) {
					t.Fatalf("%+v turns %d into %d, not %d; Changes is %t", d, w, is[at], After(w, d), Changes(w, d))
				}
			}
			wanted, next := finds(slow, d)
			if found != wanted || !slices.Equal(is, next) {
				t.Fatalf("%+v finds %d, not %d, and makes %v, not %v", d, found, wanted, is, next)
			}
			slow = next
		}
	}
}

// 7.3: a deed turns no word of another memory, be it one of the same words or a copy.
func TestNoWordOfAnotherMemory(t *testing.T) {
	l := []uint64{1, 2, 3}
	for _, kind := range allKinds() {
		for at := -1; at <= 3; at++ {
			c, same := memory(t, l...), memory(t, l...)
			other := c.Copy()
			Do(c, api.Deed{Kind: kind, At: at, A: 2, B: 9})
			if !slices.Equal(same.Words(), l) || !slices.Equal(other.Words(), l) {
				t.Fatalf("kind %d at %d turns words of other memories: %v, %v", kind, at, same.Words(), other.Words())
			}
		}
	}
}

// 7.1 and R5: After, Changes and Text do nothing to any memory, and tell the same again.
func TestTheyTellTheSameAgain(t *testing.T) {
	for _, kind := range allKinds() {
		d := api.Deed{Kind: kind, At: 1, A: 5, B: 6, By: 7}
		c := memory(t, 4, 5)
		after, changes, text := After(5, d), Changes(5, d), Text(d)
		Do(c, d)
		Do(nil, d)
		if After(5, d) != after || Changes(5, d) != changes || Text(d) != text || d != (api.Deed{Kind: kind, At: 1, A: 5, B: 6, By: 7}) {
			t.Fatalf("of %+v: %d, %t, %q, and again %d, %t, %q", d, after, changes, text, After(5, d), Changes(5, d), Text(d))
		}
	}
}
