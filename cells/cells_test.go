package cells

import (
	"math"
	"math/rand"
	"slices"
	"testing"

	"sundial/api"
)

// sizes are how many words there can be: none, few, about powers of two, and the most.
var sizes = []int{0, 1, 2, 3, 4, 5, 7, 8, 9, 63, 64, 65, 255, 256, 257, 1023, 1024, 1025, 4095, 4096}

// numbers are the edges of a word.
var numbers = []uint64{
	0, 1, 2, 3, 5, 1<<31 - 1, 1 << 31, 1<<32 - 1, 1 << 32, 1<<32 + 1, 1<<63 - 1, 1 << 63, 1<<63 + 1, math.MaxUint64 - 1, math.MaxUint64,
}

// beyond tells places where a memory of n words has none; of some the lowest bits are those of a place that there is.
func beyond(n int) []int {
	return []int{
		math.MinInt, math.MinInt + 1, -1 << 62, -1<<32 - 1, -1 << 32, -1<<32 + 1, math.MinInt32, -4097, -4096, -65536, -n - 1, -2, -1,
		n, n + 1, n + 2, 2*n + 1, 4096, 4097, 1 << 16, 1<<16 + 1, math.MaxInt32, 1 << 32, 1<<32 + 1, 1 << 62, math.MaxInt - 1, math.MaxInt,
	}
}

// within tells places of a memory of n words: the first ones, the last ones and one between them.
func within(n int) []int {
	var l []int
	for _, at := range []int{0, 1, 2, n / 2, n - 2, n - 1} {
		if at >= 0 && at < n && !slices.Contains(l, at) {
			l = append(l, at)
		}
	}
	return l
}

// chance tells n words, some of them edges.
func chance(r *rand.Rand, n int) []uint64 {
	var l []uint64
	for range n {
		if r.Intn(2) == 0 {
			l = append(l, numbers[r.Intn(len(numbers))])
		} else {
			l = append(l, r.Uint64())
		}
	}
	return l
}

// of makes a memory of the words of l.
func of(t *testing.T, l ...uint64) *Cells {
	t.Helper()
	c, err := Of(l)
	if c == nil || err != api.OK {
		t.Fatalf("Of %d words: %v, %d", len(l), c, err)
	}
	return c
}

// holds asks whether a memory has the words of l and no others, in all ways in which it can be asked.
func holds(t *testing.T, c *Cells, l ...uint64) {
	t.Helper()
	if c.Len() != len(l) {
		t.Fatalf("%d words, not %d", c.Len(), len(l))
	}
	if got := c.Words(); !slices.Equal(got, l) {
		t.Fatalf("words %v, not %v", got, l)
	}
	for at, w := range l {
		if got := c.Load(at); got != w {
			t.Fatalf("Load(%d): %d, not %d", at, got, w)
		}
	}
}

// 6.1: New, of each number from 0 to the most, makes so many words, all 0.
func TestNew(t *testing.T) {
	for n := 0; n <= api.MaxWords; n++ {
		c, err := New(n)
		if c == nil || err != api.OK {
			t.Fatalf("New(%d): %v, %d", n, c, err)
		}
		if words := c.Words(); c.Len() != n || len(words) != n || slices.ContainsFunc(words, func(w uint64) bool { return w != 0 }) {
			t.Fatalf("New(%d): %d words, %v", n, c.Len(), words)
		}
	}
	for _, n := range sizes {
		c, _ := New(n)
		holds(t, c, make([]uint64, n)...)
	}
}

// 6.1: New, of numbers below 0 and above the most.
func TestNewOfNoSize(t *testing.T) {
	for _, n := range []int{
		-1, -2, -64, -4095, -4096, -4097, math.MinInt32, -1 << 32, -1<<32 + 1, -1<<32 + 4096, -1 << 62, math.MinInt + 1, math.MinInt,
		4097, 4098, 5000, 8191, 8192, 1 << 16, 1<<16 + 1, math.MaxInt32, 1 << 31, 1 << 32, 1<<32 + 1, 1<<32 + 4096, 1 << 60, 1<<61 + 1, math.MaxInt - 1, math.MaxInt,
	} {
		if c, err := New(n); c != nil || err != api.ErrArg {
			t.Errorf("New(%d): %v, %d", n, c, err)
		}
	}
}

// 6.1: Of makes a memory of the words, each at its place.
func TestOf(t *testing.T) {
	r := rand.New(rand.NewSource(1))
	holds(t, of(t))
	holds(t, of(t, 4), 4)
	holds(t, of(t, 0), 0)
	holds(t, of(t, 0, 0, 9), 0, 0, 9)
	holds(t, of(t, numbers...), numbers...)
	for _, n := range sizes {
		l := chance(r, n)
		holds(t, of(t, l...), l...)
	}
	if c, err := Of(nil); c == nil || err != api.OK || c.Len() != 0 || len(c.Words()) != 0 {
		t.Errorf("Of(nil): %v, %d", c, err)
	}
	if c, err := Of([]uint64{}); c == nil || err != api.OK || c.Len() != 0 || len(c.Words()) != 0 {
		t.Errorf("Of no words: %v, %d", c, err)
	}
}

// 6.1: Of more words than the most.
func TestOfTooManyWords(t *testing.T) {
	for _, n := range []int{4097, 4098, 5000, 8192, 1 << 16, 1<<16 + 1, 1 << 20} {
		if c, err := Of(make([]uint64, n)); c != nil || err != api.ErrArg {
			t.Errorf("Of %d words: %v, %d", n, c, err)
		}
	}
	// How many stand in the list counts, not how many its array has.
	array := make([]uint64, 9000)
	if c, err := Of(array[:4096]); err != api.OK || c.Len() != 4096 {
		t.Errorf("Of 4096 words of an array of 9000: %d", err)
	}
	holds(t, of(t, array[8000:8003]...), 0, 0, 0)
	if c, err := Of(array[:4097]); c != nil || err != api.ErrArg {
		t.Errorf("Of 4097 words of an array of 9000: %v, %d", c, err)
	}
}

// 6.1 and 6.2: the chapter's example.
func TestExample(t *testing.T) {
	c := of(t, 5, 6)
	if found := c.Swap(0, 5, 7); found != 5 {
		t.Errorf("the first Swap finds %d", found)
	}
	if found := c.Swap(0, 5, 8); found != 7 {
		t.Errorf("the second Swap finds %d", found)
	}
	if found := c.Add(1, math.MaxUint64); found != 6 {
		t.Errorf("Add finds %d", found)
	}
	holds(t, c, 7, 5)
}

// 6.2: Load tells what is found, and changes nothing.
func TestLoad(t *testing.T) {
	l := []uint64{3, 0, math.MaxUint64, 1 << 63}
	c := of(t, l...)
	for range 3 {
		for at, w := range l {
			if found := c.Load(at); found != w {
				t.Errorf("Load(%d): %d, not %d", at, found, w)
			}
		}
	}
	holds(t, c, l...)
}

// 6.2: Store tells what was found, and lets w stand at that place alone.
func TestStore(t *testing.T) {
	for _, n := range sizes {
		for _, at := range within(n) {
			for _, w := range numbers {
				l := chance(rand.New(rand.NewSource(2)), n)
				c := of(t, l...)
				if found := c.Store(at, w); found != l[at] {
					t.Fatalf("Store(%d, %d) of %d words finds %d, not %d", at, w, n, found, l[at])
				}
				l[at] = w
				if got := c.Words(); !slices.Equal(got, l) {
					t.Fatalf("Store(%d, %d) of %d words: %v, not %v", at, w, n, got, l)
				}
			}
		}
	}
}

// 6.2: Swap tells what was found, and lets w stand there just if that is old.
func TestSwap(t *testing.T) {
	for _, stands := range numbers {
		for _, old := range numbers {
			for _, w := range numbers {
				c := of(t, 77, stands, 78)
				if found := c.Swap(1, old, w); found != stands {
					t.Fatalf("Swap(1, %d, %d) of %d finds %d", old, w, stands, found)
				}
				if stands == old {
					holds(t, c, 77, w, 78)
				} else {
					holds(t, c, 77, stands, 78)
				}
			}
		}
	}
}

// 6.2: Swap, at each edge of the places; a word that another place has is not the one that is asked.
func TestSwapAtPlaces(t *testing.T) {
	for _, n := range sizes {
		for _, at := range within(n) {
			l := make([]uint64, n)
			for i := range l {
				l[i] = uint64(i) + 10
			}
			c := of(t, l...)
			if found := c.Swap(at, l[at]+1, 3); found != l[at] || !slices.Equal(c.Words(), l) {
				t.Fatalf("Swap(%d) of another word, of %d: %d found, %v", at, n, found, c.Words())
			}
			if found := c.Swap(at, l[at], 3); found != l[at] {
				t.Fatalf("Swap(%d) of %d: %d found", at, n, found)
			}
			l[at] = 3
			if !slices.Equal(c.Words(), l) {
				t.Fatalf("Swap(%d) of %d: %v, not %v", at, n, c.Words(), l)
			}
		}
	}
}

// 6.2: Add, in numbers: it goes round.
func TestAddExamples(t *testing.T) {
	for _, x := range []struct{ stands, n, want uint64 }{
		{0, 0, 0}, {0, 1, 1}, {1, 1, 2}, {6, math.MaxUint64, 5}, {0, math.MaxUint64, math.MaxUint64}, {math.MaxUint64, 1, 0}, {math.MaxUint64, 0, math.MaxUint64},
		{math.MaxUint64, math.MaxUint64, math.MaxUint64 - 1}, {1 << 63, 1 << 63, 0}, {1<<63 - 1, 1, 1 << 63}, {1<<63 + 5, 1<<63 + 6, 11},
		{1<<32 - 1, 1, 1 << 32}, {1 << 31, 1 << 31, 1 << 32}, {1, 1<<32 - 1, 1 << 32}, {5, math.MaxUint64 - 4, 0}, {5, math.MaxUint64 - 5, math.MaxUint64},
	} {
		c := of(t, 77, x.stands, 78)
		if found := c.Add(1, x.n); found != x.stands {
			t.Errorf("Add(1, %d) of %d finds %d", x.n, x.stands, found)
		}
		holds(t, c, 77, x.want, 78)
	}
}

// 6.2: Add, at each edge of the places, tells what was found ahead of it, and changes that place alone.
func TestAddAtPlaces(t *testing.T) {
	for _, n := range sizes {
		for _, at := range within(n) {
			l := chance(rand.New(rand.NewSource(3)), n)
			c := of(t, l...)
			for _, k := range numbers {
				if found := c.Add(at, k); found != l[at] {
					t.Fatalf("Add(%d, %d) of %d words finds %d, not %d", at, k, n, found, l[at])
				}
				l[at] += k
			}
			if !slices.Equal(c.Words(), l) {
				t.Fatalf("Add(%d) of %d words: %v, not %v", at, n, c.Words(), l)
			}
		}
	}
}

// 6.2 and the chapter's beginning: where there is no word 0 is found, and nothing is changed.
func TestWhereThereIsNoWord(t *testing.T) {
	for _, n := range sizes {
		for _, filler := range []uint64{0, 9} {
			l := slices.Repeat([]uint64{filler}, n)
			c := of(t, l...)
			for _, at := range beyond(n) {
				if at >= 0 && at < n {
					continue
				}
				for _, w := range []uint64{0, 1, 9, math.MaxUint64} {
					a, b, s, d, e := c.Load(at), c.Store(at, w), c.Swap(at, 0, w), c.Swap(at, w, 5), c.Add(at, w)
					if a != 0 || b != 0 || s != 0 || d != 0 || e != 0 || c.Load(at) != 0 {
						t.Fatalf("at %d of %d words: %d, %d, %d, %d, %d, %d found", at, n, a, b, s, d, e, c.Load(at))
					}
				}
			}
			holds(t, c, l...)
		}
	}
}

// 6.2: nothing is changed behind a memory's last word, even where the words came from a longer array.
func TestBehindTheLastWord(t *testing.T) {
	array := []uint64{1, 2, 3, 4, 5}
	c := of(t, array[:2]...)
	if c.Store(2, 9) != 0 || c.Add(3, 9) != 0 || c.Swap(4, 5, 9) != 0 || c.Swap(4, 0, 9) != 0 || c.Load(2) != 0 {
		t.Errorf("a word was found behind the last one")
	}
	holds(t, c, 1, 2)
	if !slices.Equal(array, []uint64{1, 2, 3, 4, 5}) {
		t.Errorf("the array became %v", array)
	}
}

// 6.2: a nil memory has nothing, and its copy is nil.
func TestNilMemory(t *testing.T) {
	var c *Cells
	for _, at := range append(beyond(0), 0, 1, 3) {
		for _, w := range numbers {
			if c.Load(at) != 0 || c.Store(at, w) != 0 || c.Swap(at, 0, w) != 0 || c.Swap(at, w, w) != 0 || c.Add(at, w) != 0 {
				t.Errorf("at %d of a nil memory something is found", at)
			}
		}
	}
	if c.Len() != 0 || len(c.Words()) != 0 || c.Copy() != nil || c.Copy().Copy() != nil {
		t.Errorf("a nil memory: %d, %v, %v", c.Len(), c.Words(), c.Copy())
	}
}

// 6.1: a memory that no call made, and one of no words, have no words, and can be copied.
func TestEmptyMemory(t *testing.T) {
	none, _ := New(0)
	for _, c := range []*Cells{none, of(t), new(Cells)} {
		if c.Store(0, 5) != 0 || c.Add(0, 5) != 0 || c.Swap(0, 0, 5) != 0 || c.Load(0) != 0 {
			t.Errorf("something is found where no words are")
		}
		holds(t, c)
		d := c.Copy()
		if d == nil || d == c {
			t.Fatalf("the copy of a memory of no words: %p of %p", d, c)
		}
		holds(t, d)
	}
}

// 6.3: what was stored is found, till something else is stored; a slow memory of places and words tells what.
func TestWhatWasStoredIsFound(t *testing.T) {
	r := rand.New(rand.NewSource(4))
	for _, n := range sizes {
		start := chance(r, n)
		c, slow := of(t, start...), map[int]uint64{}
		for at, w := range start {
			slow[at] = w
		}
		for range 2000 {
			at := r.Intn(n+4) - 2
			if r.Intn(3) == 0 {
				at = min(n, 2) - r.Intn(3)
			}
			was, is := slow[at]
			w, old, found := chance(r, 1)[0], chance(r, 1)[0], uint64(0)
			if r.Intn(2) == 0 {
				old = was
			}
			next := was
			switch r.Intn(4) {
			case 0:
				found = c.Load(at)
			case 1:
				found, next = c.Store(at, w), w
			case 2:
				found = c.Swap(at, old, w)
				if was == old {
					next = w
				}
			case 3:
				found, next = c.Add(at, w), was+w
			}
			if found != was {
				t.Fatalf("at %d of %d words: %d found, not %d", at, n, found, was)
			}
			if is {
				slow[at] = next
			}
		}
		for at := range n + 2 {
			if got := c.Load(at); got != slow[at] {
				t.Fatalf("at %d of %d words: %d, not %d", at, n, got, slow[at])
			}
		}
		if c.Len() != n {
			t.Fatalf("%d words became %d", n, c.Len())
		}
	}
}

// 6.1 and 6.3: a copy has the same words, and goes its own way, and so does a copy of a copy.
func TestCopyGoesItsOwnWay(t *testing.T) {
	for _, n := range sizes {
		l := chance(rand.New(rand.NewSource(5)), n)
		c := of(t, l...)
		d := c.Copy()
		e := d.Copy()
		if c == d || d == e || c == e {
			t.Fatalf("a copy of %d words is the same memory", n)
		}
		for _, m := range []*Cells{c, d, e} {
			holds(t, m, l...)
		}
		for at := range n {
			c.Store(at, 11)
			d.Add(at, 1)
			e.Swap(at, l[at], 22)
		}
		for at, w := range l {
			if c.Load(at) != 11 || d.Load(at) != w+1 || e.Load(at) != 22 {
				t.Fatalf("at %d of %d words: %d, %d, %d", at, n, c.Load(at), d.Load(at), e.Load(at))
			}
		}
	}
}

// 6.3: a copy holds what stood there when it was made, not what stood there at first.
func TestCopyOfWhatWasChanged(t *testing.T) {
	c := of(t, 1, 2, 3)
	c.Store(0, 9)
	d := c.Copy()
	c.Add(1, 5)
	e := c.Copy()
	c.Swap(2, 3, 8)
	d.Store(1, 4)
	holds(t, c, 9, 7, 8)
	holds(t, d, 9, 4, 3)
	holds(t, e, 9, 7, 3)
}

// 6.1, 6.3 and R4: what is handed in stays as it was, with what stands behind it, and is not kept.
func TestWhatIsHandedInIsNotKept(t *testing.T) {
	for _, n := range []int{0, 1, 2, 5, 4096} {
		array := append(chance(rand.New(rand.NewSource(6)), n), 71, 72)
		was := slices.Clone(array)
		c := of(t, array[:n]...)
		for at := range n {
			c.Add(at, 3)
		}
		if !slices.Equal(array, was) {
			t.Fatalf("of %d words: what was handed in was changed", n)
		}
		kept := c.Words()
		for i := range array {
			array[i] = 55
		}
		holds(t, c, kept...)
	}
}

// 6.1, 6.3 and R4: what Words told stays as it was, and what is done to it changes no memory and no other list.
func TestWhatWordsToldIsNotKept(t *testing.T) {
	for _, n := range []int{0, 1, 2, 5, 4096} {
		l := chance(rand.New(rand.NewSource(7)), n)
		c := of(t, l...)
		told, again := c.Words(), c.Words()
		for at := range n {
			c.Store(at, 66)
		}
		if !slices.Equal(told, l) || !slices.Equal(again, l) {
			t.Fatalf("of %d words: what was told was changed", n)
		}
		for i := range told {
			told[i] = 55
		}
		told = append(told, 56)
		if !slices.Equal(again, l) || !slices.Equal(c.Words(), slices.Repeat([]uint64{66}, n)) {
			t.Fatalf("of %d words: what was told is kept", n)
		}
		c.Store(n, 5)
		if told[n] != 56 {
			t.Fatalf("of %d words: a Store behind the last word reached what was told", n)
		}
	}
}

// 6.3: two memories of the same words, or of as many, don't touch one another.
func TestMemoriesAreApart(t *testing.T) {
	l := []uint64{1, 2, 3}
	a, b := of(t, l...), of(t, l...)
	c, _ := New(3)
	d, _ := New(3)
	a.Store(0, 9)
	c.Store(1, 8)
	holds(t, a, 9, 2, 3)
	holds(t, b, 1, 2, 3)
	holds(t, c, 0, 8, 0)
	holds(t, d, 0, 0, 0)
}
