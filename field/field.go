// Package field is layer 1: numbers within words. See shared/doc/01-field.md.
package field

const (
	wordBits = 64
	halfBits = wordBits / 2
)

// Is tells whether a word has a field of wide bits from the bit at on.
func Is(at, wide int) bool {
	// wide is held against what is left of the word: at + wide could go round.
	return at >= 0 && wide >= 1 && wide <= wordBits-at
}

// Get tells the number that the field of w is; 0, if there is no such field.
func Get(w uint64, at, wide int) uint64 {
	if !Is(at, wide) {
		return 0
	}
	return (w & bits(at, wide)) >> at
}

// Put tells w with the lowest wide bits of n as the field; w, if there is no such field.
func Put(w uint64, at, wide int, n uint64) uint64 {
	if !Is(at, wide) {
		return w
	}
	b := bits(at, wide)
	return w&^b | (n<<at)&b
}

// High tells the higher half of w.
func High(w uint64) uint64 {
	return Get(w, halfBits, halfBits)
}

// Low tells the lower half of w.
func Low(w uint64) uint64 {
	return Get(w, 0, halfBits)
}

// Pair tells the word of which the halves are the lowest bits of high and of low.
func Pair(high, low uint64) uint64 {
	return Put(low, halfBits, halfBits, high)
}

// bits tells the word that is 1 at the bits of a field that there is, and 0 elsewhere.
func bits(at, wide int) uint64 {
	b := ^uint64(0)
	switch {
	case at+wide < wordBits:
		b >>= wordBits - at - wide
		// Where bits above the field are left out, those below it still are to be.
		fallthrough
	case at > 0:
		b = b >> at << at
	}
	return b
}
