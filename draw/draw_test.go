package draw

import (
	"math"
	"math/rand"
	"slices"
	"strconv"
	"strings"
	"testing"
)

// levels are the edges of how many there can be, rising: below 1, about 64, and very large ones, of some of which the lowest bits are small.
var levels = []int{
	math.MinInt, math.MinInt + 1, math.MinInt + 4, -1<<32 + 4, math.MinInt32, -65, -64, -2, -1, 0,
	1, 2, 3, 4, 5, 7, 8, 9, 31, 32, 33, 62, 63, 64, 65, 66, 127, 128,
	1<<16 + 1, math.MaxInt32, 1 << 32, 1<<32 + 4, math.MaxInt - 1, math.MaxInt,
}

// lowest tells the number of which just the lowest k bits are 1.
func lowest(k int) uint64 {
	n := uint64(0)
	for range k {
		n = 2*n + 1
	}
	return n
}

// numbers are those of which just the lowest bits are 1, those with other ones behind the first 0, and some by chance.
func numbers() []uint64 {
	l := []uint64{0, 1, 2, 3, 4, 5, 11, 0x5555555555555555, 0xAAAAAAAAAAAAAAAA, 0xFFFFFFFF00000000, 1 << 63, math.MaxUint64 - 1, math.MaxUint64}
	for k := 0; k <= 64; k++ {
		l = append(l, lowest(k))
	}
	r := rand.New(rand.NewSource(1))
	for k := range 64 {
		gap := uint64(1) << k
		l = append(l, math.MaxUint64-gap, lowest(k)+r.Uint64()*2*gap)
	}
	for range 500 {
		l = append(l, r.Uint64(), r.Uint64()|r.Uint64()|r.Uint64())
	}
	return l
}

// slowHeight is the chapter's sentence, asked of the bits as they are written.
func slowHeight(n uint64, levels int) int {
	if levels < 1 {
		return 0
	}
	bits := strconv.FormatUint(n, 2)
	height := 1 + len(bits) - len(strings.TrimRight(bits, "1"))
	if height > levels {
		return levels
	}
	return height
}

// slowCount goes through all numbers for each height.
func slowCount(l []uint64, levels int) []int {
	if levels > 64 {
		levels = 64
	}
	var counts []int
	for height := 1; height <= levels; height++ {
		n := 0
		for _, x := range l {
			if slowHeight(x, levels) == height {
				n++
			}
		}
		counts = append(counts, n)
	}
	return counts
}

// span tells so many numbers, one behind the other, from first on; behind the last number comes 0.
func span(first uint64, many int) []uint64 {
	var l []uint64
	for i := range many {
		l = append(l, first+uint64(i))
	}
	return l
}

// lists are such as the issue names, and some by chance.
func lists() [][]uint64 {
	all := numbers()
	l := [][]uint64{
		nil, {}, {0}, {1}, {7}, {math.MaxUint64}, {1, 1, 1}, {0, 0}, {15, 0, 15, 31, 11}, {math.MaxUint64, 0, math.MaxUint64}, {0, 1, 3, 7, 2},
		all, span(0, 1000), span(math.MaxUint64-100, 200), slices.Repeat([]uint64{lowest(5)}, 300),
	}
	r := rand.New(rand.NewSource(2))
	for n := range 50 {
		var some []uint64
		for range n {
			some = append(some, all[r.Intn(len(all))])
		}
		l = append(l, some)
	}
	return l
}

// 5.1: Height, in numbers: the examples, and the edges.
func TestHeightExamples(t *testing.T) {
	for _, x := range []struct {
		n            uint64
		levels, want int
	}{
		{0, 4, 1}, {1, 4, 2}, {11, 4, 3}, {15, 4, 4}, {31, 4, 4}, {7, 4, 4},
		{2, 4, 1}, {3, 4, 3}, {4, 4, 1}, {5, 4, 2}, {6, 4, 1}, {13, 4, 2}, {0xF7, 8, 4}, {0xFFFE, 8, 1}, {0xFF7F, 8, 8},
		{0, 1, 1}, {1, 1, 1}, {7, 1, 1}, {math.MaxUint64, 1, 1}, {1, 2, 2}, {3, 2, 2}, {3, 3, 3},
		{0, 0, 0}, {7, 0, 0}, {math.MaxUint64, 0, 0}, {0, -1, 0}, {7, -1, 0}, {7, -3, 0}, {math.MaxUint64, -65, 0}, {15, -1<<32 + 4, 0},
		{0, math.MinInt, 0}, {math.MaxUint64, math.MinInt, 0}, {15, math.MinInt + 4, 0},
		{0, 64, 1}, {1<<63 - 1, 63, 63}, {1<<63 - 1, 64, 64}, {1<<63 - 1, 65, 64}, {1<<62 - 1, 64, 63}, {1<<32 - 1, 64, 33},
		{math.MaxUint64, 63, 63}, {math.MaxUint64, 64, 64}, {math.MaxUint64, 65, 65}, {math.MaxUint64, 66, 65}, {math.MaxUint64, 100, 65},
		{1 << 63, 64, 1}, {1<<63 + 1, 64, 2}, {math.MaxUint64 - 1, 65, 1}, {math.MaxUint64 - 1<<62, 65, 63}, {math.MaxUint64 - 1<<31, 65, 32},
		{math.MaxUint64, math.MaxInt, 65}, {1<<63 - 1, math.MaxInt, 64}, {0, math.MaxInt, 1}, {15, math.MaxInt, 5}, {15, 1<<32 + 1, 5}, {15, 1 << 32, 5},
	} {
		if got := Height(x.n, x.levels); got != x.want {
			t.Errorf("Height(%#x, %d): %d, not %d", x.n, x.levels, got, x.want)
		}
	}
}

// 5.1: of the number of which just the lowest k bits are 1, the height is k+1, but no more than there are levels.
func TestHeightOfLowestBits(t *testing.T) {
	for k := 0; k <= 64; k++ {
		for most := 1; most <= 70; most++ {
			want := k + 1
			if want > most {
				want = most
			}
			if got := Height(lowest(k), most); got != want {
				t.Errorf("Height of the lowest %d bits, of %d levels: %d, not %d", k, most, got, want)
			}
		}
	}
}

// 5.1: Height, of each number, with all levels: against the bits as they are written.
func TestHeightOfNumbers(t *testing.T) {
	for _, n := range append(numbers(), span(0, 3000)...) {
		for _, most := range levels {
			if got, want := Height(n, most), slowHeight(n, most); got != want {
				t.Errorf("Height(%#x, %d): %d, not %d", n, most, got, want)
			}
		}
	}
}

// 5.1: Row, in numbers.
func TestRowExamples(t *testing.T) {
	l := []uint64{0, 1, 11, 15, 31, math.MaxUint64}
	for _, x := range []struct {
		levels int
		want   []int
	}{
		{4, []int{1, 2, 3, 4, 4, 4}}, {5, []int{1, 2, 3, 5, 5, 5}}, {1, []int{1, 1, 1, 1, 1, 1}}, {64, []int{1, 2, 3, 5, 6, 64}},
		{65, []int{1, 2, 3, 5, 6, 65}}, {math.MaxInt, []int{1, 2, 3, 5, 6, 65}},
		{0, []int{0, 0, 0, 0, 0, 0}}, {-1, []int{0, 0, 0, 0, 0, 0}}, {math.MinInt, []int{0, 0, 0, 0, 0, 0}},
	} {
		if got := Row(l, x.levels); !slices.Equal(got, x.want) {
			t.Errorf("Row(%v, %d): %v, not %v", l, x.levels, got, x.want)
		}
	}
}

// 5.1: Row, of lists: each height at its number's place, and none beside them.
func TestRowOfLists(t *testing.T) {
	for _, l := range lists() {
		for _, most := range levels {
			var want []int
			for _, n := range l {
				want = append(want, slowHeight(n, most))
			}
			if got := Row(l, most); !slices.Equal(got, want) {
				t.Errorf("Row(%v, %d): %v, not %v", l, most, got, want)
			}
		}
	}
}

// 5.1: Count, in numbers: what is higher than there are levels draws the highest; without levels there is no height.
func TestCountExamples(t *testing.T) {
	l := []uint64{0, 1, 11, 15, 31, 2, 1}
	for _, x := range []struct {
		levels int
		want   []int
	}{
		{1, []int{7}}, {2, []int{2, 5}}, {3, []int{2, 2, 3}}, {4, []int{2, 2, 1, 2}}, {5, []int{2, 2, 1, 0, 2}}, {6, []int{2, 2, 1, 0, 1, 1}}, {7, []int{2, 2, 1, 0, 1, 1, 0}},
		{0, nil}, {-1, nil}, {-64, nil}, {-1<<32 + 4, nil}, {math.MinInt + 4, nil}, {math.MinInt, nil},
	} {
		if got := Count(l, x.levels); !slices.Equal(got, x.want) {
			t.Errorf("Count(%v, %d): %v, not %v", l, x.levels, got, x.want)
		}
	}
}

// 5.1: Count, with levels about 64 and above: there are 64 heights, and the highest numbers draw the 64th.
func TestCountOfManyLevels(t *testing.T) {
	l := []uint64{math.MaxUint64, 1<<63 - 1, 1<<62 - 1, 0, math.MaxUint64}
	for _, most := range []int{64, 65, 66, 100, 1 << 32, 1<<32 + 1, math.MaxInt - 1, math.MaxInt} {
		want := make([]int, 64)
		want[0], want[62], want[63] = 1, 1, 3
		if got := Count(l, most); !slices.Equal(got, want) {
			t.Errorf("Count(%v, %d): %v, not %v", l, most, got, want)
		}
	}
	want := make([]int, 63)
	want[0], want[62] = 1, 4
	if got := Count(l, 63); !slices.Equal(got, want) {
		t.Errorf("Count(%v, 63): %v, not %v", l, got, want)
	}
}

// 5.1: Count, of no numbers: each height is drawn by none.
func TestCountOfNoNumbers(t *testing.T) {
	for _, l := range [][]uint64{nil, {}} {
		for most, want := range map[int]int{-1: 0, 0: 0, 1: 1, 4: 4, 64: 64, 65: 64, math.MaxInt: 64, math.MinInt: 0} {
			if got := Count(l, most); !slices.Equal(got, make([]int, want)) {
				t.Errorf("Count(%v, %d): %v", l, most, got)
			}
		}
	}
}

// 5.1: Count, of lists: against a search for each height; each number is counted once, if there are levels.
func TestCountOfLists(t *testing.T) {
	for _, l := range lists() {
		for _, most := range levels {
			got := Count(l, most)
			if want := slowCount(l, most); !slices.Equal(got, want) {
				t.Errorf("Count(%v, %d): %v, not %v", l, most, got, want)
			}
			sum := 0
			for _, n := range got {
				sum += n
			}
			if most >= 1 && sum != len(l) {
				t.Errorf("Count(%v, %d): %d numbers of %d", l, most, sum, len(l))
			}
		}
	}
}

// 5.2: with more levels no height is less.
func TestMoreLevelsNoLess(t *testing.T) {
	if !slices.IsSorted(levels) {
		t.Fatal("the levels don't rise")
	}
	for _, n := range numbers() {
		last := 0
		for i, most := range levels {
			got := Height(n, most)
			if got < last {
				t.Errorf("Height(%#x, %d): %d, and %d of %d levels", n, most, got, last, levels[i-1])
			}
			last = got
		}
	}
}

// 5.2: the same of levels one behind the other: from one to the next a height stays or goes up by 1.
func TestNextLevelNoLess(t *testing.T) {
	for _, n := range numbers() {
		for most := -3; most < 70; most++ {
			if up := Height(n, most+1) - Height(n, most); up < 0 || up > 1 {
				t.Errorf("Height(%#x, ..) goes up by %d from %d levels to the next", n, up, most)
			}
		}
	}
}

// 5.2: half of the numbers of a full range draw 1, wherever it stands; of those that are left half draw 2, and so on.
func TestHalfDrawOne(t *testing.T) {
	for _, first := range []uint64{0, 1 << 16, 1 << 32, 1<<63 - 1<<16, 1 << 63, math.MaxUint64 - (1<<16 - 1)} {
		l := span(first, 1<<16)
		for most := 2; most <= 16; most++ {
			counts, left := Count(l, most), len(l)
			for i, n := range counts[:most-1] {
				left /= 2
				if n != left {
					t.Errorf("from %#x on %d of %d numbers draw %d of %d levels, not %d", first, n, len(l), i+1, most, left)
				}
			}
			if counts[most-1] != left {
				t.Errorf("from %#x on %d of %d numbers draw %d of %d levels, not %d", first, counts[most-1], len(l), most, most, left)
			}
		}
		ones := 0
		for _, height := range Row(l, 8) {
			if height == 1 {
				ones++
			}
		}
		if ones != len(l)/2 {
			t.Errorf("from %#x on %d of %d numbers draw 1", first, ones, len(l))
		}
	}
}

// 5.2: half of all numbers draw 1: the even ones just, whatever their other bits are, as soon as there is more than one level.
func TestEvenNumbersDrawOne(t *testing.T) {
	for _, n := range numbers() {
		for _, most := range levels {
			if most < 2 {
				continue
			}
			if got := Height(n, most) == 1; got != (n%2 == 0) {
				t.Errorf("Height(%#x, %d) is 1: %v", n, most, got)
			}
		}
	}
}

// R4: no call changes the list that it is handed, nor what stands behind it in its array.
func TestListsStay(t *testing.T) {
	for _, l := range lists() {
		for _, most := range levels {
			whole := append(slices.Clone(l), 3, 1, 4, 1, 5)
			before := slices.Clone(whole)
			Row(whole[:len(l)], most)
			Count(whole[:len(l)], most)
			if !slices.Equal(whole, before) {
				t.Errorf("the list %v is %v behind calls of %d levels", before, whole, most)
			}
		}
	}
}

// spoil writes into all of l, and behind it as far as its array goes.
func spoil(l []int) {
	l = l[:cap(l)]
	for i := range l {
		l[i] = -7
	}
}

// R4: what Row and Count tell can be written into: neither what was handed in nor what another call tells hangs on it.
func TestAnswersAreNew(t *testing.T) {
	for _, tell := range []func([]uint64, int) []int{Row, Count} {
		for _, l := range lists() {
			for _, most := range levels {
				handed := slices.Clone(l)
				kept := tell(handed, most)
				want := slices.Clone(kept)
				spoil(tell(handed, most))
				if !slices.Equal(handed, l) || !slices.Equal(kept, want) || !slices.Equal(tell(handed, most), want) {
					t.Errorf("what was told of %v and %d levels, written into, turns something else", l, most)
				}
			}
		}
	}
}

// R4: what is handed in is not kept: it may be written into behind the call, and what was told stays.
func TestAnswersStay(t *testing.T) {
	l := []uint64{0, 1, 11, 15, 31}
	row, count := Row(l, 4), Count(l, 4)
	clear(l)
	if !slices.Equal(row, []int{1, 2, 3, 4, 4}) || !slices.Equal(count, []int{1, 1, 1, 2}) {
		t.Errorf("behind a change of the list: %v, %v", row, count)
	}
}
