package order

import (
	"math"
	"math/rand"
	"slices"
	"testing"

	"sundial/api"
)

// deadlines are the edges of what a deadline can be: differences of some of them go round.
var deadlines = []int{
	math.MinInt, math.MinInt + 1, -api.Never, math.MinInt32, -2, -1, 0, 1, 2, 5, 6, math.MaxInt32, 1 << 32,
	api.MaxTime - 1, api.MaxTime, api.Never, math.MaxInt - 1, math.MaxInt,
}

// seqs are the edges of what a number in the sequence can be; from 1<<63 on they would be below 0, if they were taken for ints.
var seqs = []uint64{0, 1, 2, 8, 9, 1<<32 - 1, 1 << 32, 1<<63 - 1, 1 << 63, 1<<63 + 1, math.MaxUint64 - 1, math.MaxUint64}

func key(deadline int, seq uint64) api.Key {
	return api.Key{Deadline: deadline, Seq: seq}
}

// edges are all keys of the edges, each less than the one behind it, as the lists of the parts rise.
func edges() []api.Key {
	var l []api.Key
	for _, d := range deadlines {
		for _, s := range seqs {
			l = append(l, key(d, s))
		}
	}
	return l
}

// less is the chapter's sentence.
func less(a, b api.Key) bool {
	return a.Deadline < b.Deadline || a.Deadline == b.Deadline && a.Seq < b.Seq
}

// chance tells a list of so many keys, some of which stand more than once.
func chance(r *rand.Rand, n int) []api.Key {
	var l []api.Key
	for range n {
		switch r.Intn(3) {
		case 0:
			l = append(l, key(deadlines[r.Intn(len(deadlines))], seqs[r.Intn(len(seqs))]))
		case 1:
			l = append(l, key(r.Intn(5)-2, uint64(r.Intn(3))))
		case 2:
			l = append(l, key(int(r.Uint64()), r.Uint64()))
		}
	}
	return l
}

// lists are such as the chapter and the issue name, and some by chance.
func lists() [][]api.Key {
	a, b, c := key(-3, 7), key(0, math.MaxUint64), key(0, 0)
	l := [][]api.Key{
		nil, {}, {a}, {b}, {a, a}, {a, b}, {b, a}, {c, b}, {b, c}, {a, b, a}, {b, a, b}, {a, a, b}, {b, b, a, a, c, c}, {a, a, a, a},
		{key(math.MaxInt, math.MaxUint64), key(math.MinInt, 0)}, {key(math.MinInt, math.MaxUint64), key(math.MinInt, 0), key(math.MaxInt, 0)},
		edges(),
	}
	r := rand.New(rand.NewSource(1))
	for n := range 100 {
		l = append(l, chance(r, n))
	}
	return l
}

// counts tells how often each key stands in l.
func counts(l []api.Key) map[api.Key]int {
	m := map[api.Key]int{}
	for _, k := range l {
		m[k]++
	}
	return m
}

// 3.1: Cmp, in numbers: the examples, and the edges that the chapter names.
func TestCmpExamples(t *testing.T) {
	for _, x := range []struct {
		a, b api.Key
		want int
	}{
		{key(5, 9), key(6, 0), -1}, {key(5, 8), key(5, 9), -1}, {key(5, 9), key(5, 9), 0}, {key(0, 0), key(0, 0), 0},
		{key(5, math.MaxUint64), key(6, 0), -1}, {key(-1, 0), key(0, 0), -1}, {key(-2, 9), key(-1, 0), -1}, {key(-1, 9), key(1, 0), -1},
		{key(-1, 1), key(-1, 1<<63), -1}, {key(0, 1<<63-1), key(0, 1<<63), -1}, {key(0, 0), key(0, math.MaxUint64), -1},
		{key(math.MinInt, 0), key(math.MaxInt, 0), -1}, {key(math.MinInt, math.MaxUint64), key(math.MinInt+1, 0), -1},
		{key(math.MinInt, 0), key(1, 0), -1}, {key(-2, 0), key(math.MaxInt, 0), -1}, {key(math.MaxInt-1, math.MaxUint64), key(math.MaxInt, 0), -1},
		{key(math.MinInt, 0), key(math.MinInt, math.MaxUint64), -1}, {key(math.MaxInt, 0), key(math.MaxInt, math.MaxUint64), -1},
		{key(math.MinInt, 3), key(math.MinInt, 3), 0}, {key(math.MaxInt, math.MaxUint64), key(math.MaxInt, math.MaxUint64), 0},
		{key(1, 2), key(2, 1), -1}, {key(0, 1), key(1<<32, 0), -1}, {key(0, 1), key(0, 1<<32), -1},
	} {
		if got := Cmp(x.a, x.b); got != x.want {
			t.Errorf("Cmp(%v, %v): %d, not %d", x.a, x.b, got, x.want)
		}
		if got := Cmp(x.b, x.a); got != -x.want {
			t.Errorf("Cmp(%v, %v): %d, not %d", x.b, x.a, got, -x.want)
		}
	}
}

// 3.1: Cmp of each two keys of the edges, by where they stand among them.
func TestCmpOfTheEdges(t *testing.T) {
	l := edges()
	for i, a := range l {
		for j, b := range l {
			want := 0
			if i < j {
				want = -1
			} else if i > j {
				want = 1
			}
			if got := Cmp(a, b); got != want {
				t.Errorf("Cmp(%v, %v): %d, not %d", a, b, got, want)
			}
		}
	}
}

// 3.1: Place, in numbers; the list may stand in any order, and the key need not stand in it.
func TestPlaceExamples(t *testing.T) {
	l := []api.Key{key(3, 1), key(1, 2), key(3, 0), key(1, 2), key(-4, 9)}
	for _, x := range []struct {
		l    []api.Key
		k    api.Key
		want int
	}{
		{nil, key(0, 0), 0}, {[]api.Key{}, key(math.MaxInt, math.MaxUint64), 0},
		{l, key(3, 1), 4}, {l, key(3, 0), 3}, {l, key(1, 2), 1}, {l, key(1, 3), 3}, {l, key(1, 1), 1}, {l, key(-4, 9), 0}, {l, key(-4, 10), 1},
		{l, key(3, 2), 5}, {l, key(0, 0), 1}, {l, key(2, math.MaxUint64), 3},
		{l, key(math.MinInt, 0), 0}, {l, key(math.MinInt, math.MaxUint64), 0}, {l, key(math.MaxInt, 0), 5}, {l, key(math.MaxInt, math.MaxUint64), 5},
		{l[:1], key(3, 0), 0}, {l[:1], key(3, 1), 0}, {l[:1], key(3, 2), 1}, {l[:1], key(2, 9), 0}, {l[:1], key(4, 0), 1},
		{[]api.Key{key(1, 1), key(1, 1), key(1, 1)}, key(1, 1), 0}, {[]api.Key{key(1, 1), key(1, 1), key(1, 1)}, key(1, 2), 3},
	} {
		if got := Place(x.l, x.k); got != x.want {
			t.Errorf("Place(%v, %v): %d, not %d", x.l, x.k, got, x.want)
		}
	}
}

// 3.1: Place of each key of a list, and of others, held against the chapter's sentence.
func TestPlaceCounts(t *testing.T) {
	r := rand.New(rand.NewSource(2))
	for _, l := range lists() {
		for _, k := range append(chance(r, 20), l...) {
			want := 0
			for _, x := range l {
				if less(x, k) {
					want++
				}
			}
			if got := Place(l, k); got != want {
				t.Errorf("Place(%v, %v): %d, not %d", l, k, got, want)
			}
		}
	}
}

// 3.1: Rising, in numbers: keys that are the same don't rise.
func TestRisingExamples(t *testing.T) {
	for _, x := range []struct {
		l    []api.Key
		want bool
	}{
		{nil, true}, {[]api.Key{}, true}, {[]api.Key{key(0, 0)}, true}, {[]api.Key{key(math.MinInt, math.MaxUint64)}, true},
		{[]api.Key{key(5, 8), key(5, 9)}, true}, {[]api.Key{key(5, 9), key(6, 0)}, true}, {[]api.Key{key(-1, 9), key(0, 0)}, true},
		{[]api.Key{key(5, 9), key(5, 8)}, false}, {[]api.Key{key(6, 0), key(5, 9)}, false}, {[]api.Key{key(0, 0), key(-1, 9)}, false},
		{[]api.Key{key(5, 9), key(5, 9)}, false}, {[]api.Key{key(0, 0), key(0, 0)}, false},
		{[]api.Key{key(1, 0), key(2, 0), key(2, 1), key(3, 0)}, true},
		{[]api.Key{key(1, 0), key(1, 0), key(2, 1), key(3, 0)}, false}, {[]api.Key{key(1, 0), key(2, 0), key(3, 0), key(3, 0)}, false},
		{[]api.Key{key(1, 0), key(3, 0), key(2, 0), key(4, 0)}, false}, {[]api.Key{key(2, 0), key(1, 0), key(3, 0), key(4, 0)}, false},
		{[]api.Key{key(1, 0), key(2, 0), key(4, 0), key(3, 0)}, false},
		{[]api.Key{key(math.MinInt, 0), key(math.MinInt, math.MaxUint64), key(0, 0), key(math.MaxInt, 0), key(math.MaxInt, math.MaxUint64)}, true},
		{[]api.Key{key(math.MaxInt, 0), key(math.MinInt, 0)}, false},
		{edges(), true},
	} {
		if got := Rising(x.l); got != x.want {
			t.Errorf("Rising(%v): %v, not %v", x.l, got, x.want)
		}
	}
}

// 3.1: a list that rises does so no more, wherever one key stands twice, or two stand the other way round.
func TestRisingIsBrokenAnywhere(t *testing.T) {
	l := edges()[:40]
	for i := range len(l) - 1 {
		twice := slices.Clone(l)
		twice[i+1] = twice[i]
		round := slices.Clone(l)
		round[i], round[i+1] = round[i+1], round[i]
		if Rising(twice) || Rising(round) {
			t.Errorf("broken at %d: rising %v, %v", i, Rising(twice), Rising(round))
		}
	}
}

// 3.2: Sort, in numbers.
func TestSortExamples(t *testing.T) {
	for _, x := range []struct{ l, want []api.Key }{
		{nil, nil}, {[]api.Key{}, nil}, {[]api.Key{key(-7, 3)}, []api.Key{key(-7, 3)}},
		{[]api.Key{key(3, 1), key(1, 2), key(3, 0), key(1, 2)}, []api.Key{key(1, 2), key(1, 2), key(3, 0), key(3, 1)}},
		{[]api.Key{key(6, 0), key(5, 9), key(5, 8)}, []api.Key{key(5, 8), key(5, 9), key(6, 0)}},
		{[]api.Key{key(4, 4), key(4, 4), key(4, 4)}, []api.Key{key(4, 4), key(4, 4), key(4, 4)}},
		{[]api.Key{key(0, 1<<63), key(0, 1), key(-1, 5), key(1, 0)}, []api.Key{key(-1, 5), key(0, 1), key(0, 1<<63), key(1, 0)}},
		{
			[]api.Key{key(math.MaxInt, math.MaxUint64), key(math.MaxInt, 0), key(0, 0), key(math.MinInt, math.MaxUint64), key(math.MinInt, 0)},
			[]api.Key{key(math.MinInt, 0), key(math.MinInt, math.MaxUint64), key(0, 0), key(math.MaxInt, 0), key(math.MaxInt, math.MaxUint64)},
		},
	} {
		if got := Sort(x.l); !slices.Equal(got, x.want) {
			t.Errorf("Sort(%v): %v, not %v", x.l, got, x.want)
		}
	}
}

// 3.2: the keys stand there as often as they did, and none is less than one ahead of it.
func TestSortOfLists(t *testing.T) {
	for _, l := range lists() {
		got := Sort(l)
		if len(got) != len(l) {
			t.Errorf("Sort(%v): %d keys, not %d", l, len(got), len(l))
		}
		want := counts(l)
		for k, n := range counts(got) {
			if n != want[k] {
				t.Errorf("Sort(%v): %v stands %d times, not %d", l, k, n, want[k])
			}
		}
		for i := range got {
			for j := range i {
				if less(got[i], got[j]) {
					t.Errorf("Sort(%v): %v stands behind %v", l, got[i], got[j])
				}
			}
		}
	}
}

// 3.2: the edges, shuffled, come back in their order, which is told by nothing of the package.
func TestSortOfShuffled(t *testing.T) {
	r := rand.New(rand.NewSource(3))
	want := edges()
	for range 20 {
		l := slices.Clone(want)
		r.Shuffle(len(l), func(i, j int) { l[i], l[j] = l[j], l[i] })
		if got := Sort(l); !slices.Equal(got, want) {
			t.Errorf("Sort(%v): %v", l, got)
		}
	}
}

// 3.1, 3.2 and R4: what is handed in stays as it was, and so does what stands behind it in the same array.
func TestWhatIsHandedInStays(t *testing.T) {
	for _, l := range lists() {
		array := append(slices.Clone(l), key(9, 9), key(-9, 9), key(0, 0))
		was := slices.Clone(array)
		in := array[:len(l)]
		Place(in, key(0, 1))
		Rising(in)
		got := Sort(in)
		if !slices.Equal(array, was) {
			t.Errorf("%v became %v", was, array)
		}
		// New memory: neither list is changed by what is done to the other, nor by what is put behind it.
		for i := range got {
			got[i] = key(77, 77)
		}
		got = append(got, key(78, 78))
		if !slices.Equal(array, was) {
			t.Errorf("%v became %v behind its sorted list", was, array)
		}
		got = Sort(in)
		sorted := slices.Clone(got)
		for i := range in {
			in[i] = key(79, 79)
		}
		if !slices.Equal(got, sorted) {
			t.Errorf("what was sorted, %v, became %v", sorted, got)
		}
	}
}

// 3.3: of two keys just one is less, or they are the same; what is less than a lesser one is less.
func TestBeingLessIsAnOrder(t *testing.T) {
	l := append(chance(rand.New(rand.NewSource(4)), 60), edges()...)
	for i := 0; i < len(l); i += 2 {
		for j := 0; j < len(l); j += 3 {
			a, b := l[i], l[j]
			if Cmp(a, b) != -Cmp(b, a) || (Cmp(a, b) == 0) != (a == b) {
				t.Errorf("%v, %v: %d, %d", a, b, Cmp(a, b), Cmp(b, a))
			}
			for k := 0; k < len(l); k += 5 {
				if Cmp(a, b) < 0 && Cmp(b, l[k]) < 0 && Cmp(a, l[k]) != -1 {
					t.Errorf("%v, %v, %v: %d", a, b, l[k], Cmp(a, l[k]))
				}
			}
		}
	}
}

// 3.3: of sorted keys as many stand ahead of a key's first place as are less; each key's place is the same in each order of the list.
func TestPlaceOfSortedKeys(t *testing.T) {
	for _, l := range lists() {
		sorted := Sort(l)
		for _, k := range l {
			first := slices.Index(sorted, k)
			if a, b := Place(sorted, k), Place(l, k); a != first || b != first {
				t.Errorf("%v stands first at %d of %v: %d, %d", k, first, sorted, a, b)
			}
		}
		once := slices.Compact(slices.Clone(sorted))
		if !Rising(once) || Rising(sorted) != (len(once) == len(sorted)) {
			t.Errorf("%v: rising %v, each key once: %v", sorted, Rising(sorted), Rising(once))
		}
	}
}
