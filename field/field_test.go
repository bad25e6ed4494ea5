package field

import (
	"math"
	"math/rand"
	"testing"
)

// odd are numbers at the edges of what an int and a field can be, and far beyond them.
var odd = []int{
	math.MinInt, math.MinInt + 1, math.MinInt32, -65, -64, -63, -2, -1, 0, 1, 2, 31, 32, 33, 62, 63, 64, 65, 66, 127, 128,
	math.MaxInt32, math.MaxInt - 64, math.MaxInt - 63, math.MaxInt - 1, math.MaxInt,
}

// words are patterns in which a bit that goes astray shows.
var words = []uint64{
	0, 1, 2, 5, 0xAB00, 0xFFFF, 1 << 31, 1 << 32, 1<<32 - 1, 1 << 63, 0x0123456789ABCDEF, 0xAAAAAAAAAAAAAAAA, 0x5555555555555555, math.MaxUint64,
}

// places are all that stand around the fields that there are, and the odd ones.
func places() []int {
	l := append([]int{}, odd...)
	for n := -3; n <= 70; n++ {
		l = append(l, n)
	}
	return l
}

// slowIs goes through all fields that there are.
func slowIs(at, wide int) bool {
	for a := 0; a < 64; a++ {
		for w := 1; w <= 64-a; w++ {
			if a == at && w == wide {
				return true
			}
		}
	}
	return false
}

// slowGet and slowPut go bit by bit.
func slowGet(w uint64, at, wide int) uint64 {
	var n uint64
	for i := 0; i < wide; i++ {
		n += (w >> (at + i) % 2) << i
	}
	return n
}

func slowPut(w uint64, at, wide int, n uint64) uint64 {
	var r uint64
	for i := 0; i < 64; i++ {
		bit := w >> i % 2
		if i >= at && i < at+wide {
			bit = n >> (i - at) % 2
		}
		r += bit << i
	}
	return r
}

// fields calls f with each field that there is.
func fields(f func(at, wide int)) {
	for at := 0; at < 64; at++ {
		for wide := 1; at+wide <= 64; wide++ {
			f(at, wide)
		}
	}
}

// noFields calls f with pairs of numbers that are no field.
func noFields(f func(at, wide int)) {
	for _, at := range places() {
		for _, wide := range places() {
			if !slowIs(at, wide) {
				f(at, wide)
			}
		}
	}
}

// 1.1: the edges that the chapter names, and what goes round when it is added.
func TestIsAtTheEdges(t *testing.T) {
	for _, x := range []struct {
		at, wide int
		want     bool
	}{
		{0, 1, true}, {0, 64, true}, {63, 1, true}, {32, 32, true}, {1, 63, true}, {62, 2, true},
		{0, 0, false}, {0, 65, false}, {1, 64, false}, {63, 2, false}, {62, 3, false}, {64, 1, false}, {64, 0, false}, {65, -1, false},
		{-1, 1, false}, {-1, 2, false}, {-1, 65, false}, {0, -1, false}, {5, -4, false}, {63, 0, false},
		{math.MaxInt, 1, false}, {math.MaxInt, math.MaxInt, false}, {1, math.MaxInt, false}, {0, math.MaxInt, false},
		{math.MaxInt - 63, 64, false}, {63, math.MaxInt - 62, false},
		{math.MinInt, 1, false}, {math.MinInt, math.MinInt, false}, {0, math.MinInt, false}, {63, math.MinInt, false},
		{math.MinInt, math.MaxInt, false}, {math.MaxInt, math.MinInt, false}, {-64, 128, false}, {128, -64, false},
		{1 << 32, 1, false}, {0, 1<<32 + 1, false},
	} {
		if got := Is(x.at, x.wide); got != x.want {
			t.Errorf("Is(%d, %d): %v, not %v", x.at, x.wide, got, x.want)
		}
	}
}

// 1.1: Is, of all pairs around the fields that there are.
func TestIsOfAll(t *testing.T) {
	for _, at := range places() {
		for _, wide := range places() {
			if got, want := Is(at, wide), slowIs(at, wide); got != want {
				t.Errorf("Is(%d, %d): %v, not %v", at, wide, got, want)
			}
		}
	}
}

// 1.1: the examples, and the edges, in numbers.
func TestGetExamples(t *testing.T) {
	for _, x := range []struct {
		w        uint64
		at, wide int
		want     uint64
	}{
		{0xAB00, 8, 8, 0xAB}, {0xAB00, 8, 4, 0xB}, {0xAB00, 12, 52, 0xA},
		{1 << 63, 63, 1, 1}, {1<<63 - 1, 63, 1, 0}, {1, 0, 1, 1}, {2, 0, 1, 0},
		{0x0123456789ABCDEF, 0, 64, 0x0123456789ABCDEF}, {0x0123456789ABCDEF, 60, 4, 0}, {0x0123456789ABCDEF, 52, 8, 0x12},
		{math.MaxUint64, 1, 63, math.MaxUint64 >> 1}, {math.MaxUint64, 0, 63, math.MaxUint64 >> 1}, {math.MaxUint64, 31, 2, 3},
	} {
		if got := Get(x.w, x.at, x.wide); got != x.want {
			t.Errorf("Get(%#x, %d, %d): %#x, not %#x", x.w, x.at, x.wide, got, x.want)
		}
	}
}

// 1.1: the examples, and the edges, in numbers.
func TestPutExamples(t *testing.T) {
	for _, x := range []struct {
		w        uint64
		at, wide int
		n, want  uint64
	}{
		{0xFFFF, 4, 4, 0x12, 0xFF2F}, {0, 63, 1, 3, 1 << 63}, {math.MaxUint64, 63, 1, 2, math.MaxUint64 >> 1},
		{math.MaxUint64, 0, 1, 0, math.MaxUint64 - 1}, {0, 0, 1, 3, 1},
		{5, 0, 64, math.MaxUint64, math.MaxUint64}, {math.MaxUint64, 0, 64, 5, 5},
		{0, 1, 63, math.MaxUint64, math.MaxUint64 - 1}, {0, 32, 32, 1<<32 + 7, 7 << 32},
	} {
		if got := Put(x.w, x.at, x.wide, x.n); got != x.want {
			t.Errorf("Put(%#x, %d, %d, %#x): %#x, not %#x", x.w, x.at, x.wide, x.n, got, x.want)
		}
	}
}

// 1.1: Get and Put, of each field, held against what goes bit by bit.
func TestGetAndPutOfEachField(t *testing.T) {
	fields(func(at, wide int) {
		for _, w := range words {
			if got, want := Get(w, at, wide), slowGet(w, at, wide); got != want {
				t.Errorf("Get(%#x, %d, %d): %#x, not %#x", w, at, wide, got, want)
			}
			for _, n := range words {
				if got, want := Put(w, at, wide, n), slowPut(w, at, wide, n); got != want {
					t.Errorf("Put(%#x, %d, %d, %#x): %#x, not %#x", w, at, wide, n, got, want)
				}
			}
		}
	})
}

// 1.1: where there is no field, 0 is got, and nothing is put.
func TestNoField(t *testing.T) {
	noFields(func(at, wide int) {
		for _, w := range words {
			if got := Get(w, at, wide); got != 0 {
				t.Errorf("Get(%#x, %d, %d): %#x, not 0", w, at, wide, got)
			}
			if got := Put(w, at, wide, ^w); got != w {
				t.Errorf("Put(%#x, %d, %d, %#x): %#x", w, at, wide, ^w, got)
			}
		}
	})
}

// 1.2: the halves, in numbers.
func TestHalves(t *testing.T) {
	for _, x := range []struct{ w, high, low uint64 }{
		{0, 0, 0}, {1, 0, 1}, {1<<32 + 2, 1, 2}, {1<<32 - 1, 0, 1<<32 - 1}, {1 << 32, 1, 0}, {1 << 31, 0, 1 << 31}, {1 << 63, 1 << 31, 0},
		{0x0123456789ABCDEF, 0x01234567, 0x89ABCDEF}, {math.MaxUint64, 1<<32 - 1, 1<<32 - 1},
	} {
		if h, l := High(x.w), Low(x.w); h != x.high || l != x.low {
			t.Errorf("High, Low of %#x: %#x, %#x, not %#x, %#x", x.w, h, l, x.high, x.low)
		}
	}
}

// 1.2: Pair, of halves, and of numbers that are more than halves.
func TestPair(t *testing.T) {
	for _, x := range []struct{ high, low, want uint64 }{
		{1, 2, 1<<32 + 2}, {0, 0, 0}, {0, 1<<32 - 1, 1<<32 - 1}, {1<<32 - 1, 0, (1<<32 - 1) << 32}, {1<<32 - 1, 1<<32 - 1, math.MaxUint64},
		{1 << 32, 1 << 32, 0}, {1<<32 + 1, 1<<32 + 2, 1<<32 + 2}, {1 << 63, 1 << 63, 0},
		{math.MaxUint64, 0, (1<<32 - 1) << 32}, {0, math.MaxUint64, 1<<32 - 1}, {math.MaxUint64, math.MaxUint64, math.MaxUint64},
		{0xFEDCBA9876543210, 0x0123456789ABCDEF, 0x7654321089ABCDEF},
	} {
		if got := Pair(x.high, x.low); got != x.want {
			t.Errorf("Pair(%#x, %#x): %#x, not %#x", x.high, x.low, got, x.want)
		}
	}
}

// 1.3: what is put is got, as far as the field is wide, and what stood there is put back.
func TestWhatIsPutIsGot(t *testing.T) {
	fields(func(at, wide int) {
		for _, w := range words {
			for _, n := range words {
				if got, want := Get(Put(w, at, wide, n), at, wide), slowGet(n, 0, wide); got != want {
					t.Errorf("(%d, %d) of %#x: put %#x, got %#x, not %#x", at, wide, w, n, got, want)
				}
				if got := Put(Put(w, at, wide, n), at, wide, Get(w, at, wide)); got != w {
					t.Errorf("(%d, %d): %#x was put back as %#x", at, wide, w, got)
				}
			}
		}
	})
}

// 1.3: fields that share no bit with the one that is put stay.
func TestOtherFieldsStay(t *testing.T) {
	r := rand.New(rand.NewSource(1))
	fields(func(at, wide int) {
		w, n := r.Uint64(), r.Uint64()
		put := Put(w, at, wide, n)
		fields(func(a, b int) {
			if a+b > at && at+wide > a {
				return
			}
			if got, want := Get(put, a, b), Get(w, a, b); got != want {
				t.Errorf("(%d, %d) was put, (%d, %d) went from %#x to %#x", at, wide, a, b, want, got)
			}
		})
	})
}

// 1.3: a word is the pair of its halves, and the halves of a pair are those that were paired.
func TestWordIsThePairOfItsHalves(t *testing.T) {
	r := rand.New(rand.NewSource(2))
	l := append([]uint64{}, words...)
	for range 1000 {
		l = append(l, r.Uint64())
	}
	for i, w := range l {
		if got := Pair(High(w), Low(w)); got != w {
			t.Errorf("the pair of the halves of %#x: %#x", w, got)
		}
		v := l[len(l)-1-i]
		if p := Pair(w, v); High(p) != Low(w) || Low(p) != Low(v) {
			t.Errorf("the halves of the pair of %#x and %#x: %#x, %#x", w, v, High(p), Low(p))
		}
	}
}
