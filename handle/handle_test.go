package handle

import (
	"fmt"
	"math"
	"math/big"
	"math/rand"
	"regexp"
	"strings"
	"testing"

	"sundial/api"
	"sundial/refer"
)

const (
	half     = 1 << 32
	topHalf  = half - 1
	topIndex = 1<<31 - 1
)

// gens and parts are the edges of generations, and of the indexes that a handle can have; not all of those are indexes of references.
var (
	gens  = []uint64{0, 1, 2, 3, 9, 10, 99, 100, 0x55555555, 0xAAAAAAAA, 1<<31 - 1, 1 << 31, 999999999, 1000000000, topHalf - 1, topHalf}
	parts = []uint64{0, 1, 2, 9, 10, 11, api.MaxSlots, api.MaxSlots + 1, 99, 100, 1<<30 - 1, 1 << 30, 999999999, 1000000000, 1<<31 - 2, 1<<31 - 1, 1 << 31, 1<<31 + 1, 1<<31 + 2, topHalf - 1, topHalf}
)

// refIndexes are the edges of the indexes that a reference can have, and 0, of which it is none.
var refIndexes = []uint64{0, 1, 2, 3, 5, api.MaxSlots, 0x2AAAAAAA, 0x55555555, 1<<30 - 1, 1 << 30, topIndex - 1, topIndex}

// slots are as many slots as a plan can say, right or wrong.
var slots = []int{
	1, 2, 3, api.MaxSlots - 1, api.MaxSlots, 0,
	-1, -2, -topIndex, math.MinInt32, -half, -half + 3, math.MinInt + 1, math.MinInt,
	api.MaxSlots + 1, topIndex - 1, topIndex, topIndex + 1, topHalf - 1, topHalf, half, half + 1, 1 << 62, math.MaxInt - 1, math.MaxInt,
}

// words are those words of which the halves are no matter of their own.
var words = []uint64{0, 1, topHalf, half, half + 1, 1<<63 - 1, 1 << 63, 1<<63 + 1, math.MaxUint64 - 1, math.MaxUint64}

// pair tells a word by its halves, without shifts and fields.
func pair(high, low uint64) uint64 {
	return high%half*half + low%half
}

// pairs are words of all edges of both halves, the other words, and some by chance.
func pairs() []uint64 {
	l := append([]uint64{}, words...)
	for _, gen := range gens {
		for _, index := range parts {
			l = append(l, pair(gen, index))
		}
	}
	r := rand.New(rand.NewSource(1))
	for range 2000 {
		l = append(l, r.Uint64(), pair(uint64(r.Intn(20)), uint64(r.Intn(api.MaxSlots+2))), pair(r.Uint64()>>r.Intn(64), r.Uint64()>>r.Intn(64)))
	}
	return l
}

// plans are plans of that many slots, right ones if there can be one, and such as are not right whatever their slots are.
func plans(slots int) []api.Plan {
	return []api.Plan{
		{Threads: 1, Slots: slots, Levels: 1},
		{Threads: api.MaxThreads, Slots: slots, Levels: api.MaxLevels, Gen: api.MaxGen},
		{Slots: slots},
		{Threads: math.MinInt, Slots: slots, Levels: math.MaxInt, Gen: math.MaxUint64},
		{Threads: api.MaxThreads + 1, Slots: slots, Levels: -1, Gen: api.MaxGen + 1},
	}
}

// known tells, by the chapter's sentence, whether a handle may be known in a plan of that many slots.
func known(slots int, h uint64) bool {
	index := h % half
	return index >= 1 && slots > 0 && index <= uint64(slots) && index <= topIndex
}

// meant tells, by the chapter's sentence, the handle of which s is the text, if it is one's; numbers are read with as many digits as there are.
func meant(s string) (uint64, bool) {
	m := theForm.FindStringSubmatch(s)
	if m == nil {
		return 0, false
	}
	var halves [2]uint64
	for i := range halves {
		n, ok := new(big.Int).SetString(m[i+1], 10)
		if !ok || n.Cmp(big.NewInt(topHalf)) > 0 {
			return 0, false
		}
		halves[i] = n.Uint64()
	}
	return pair(halves[0], halves[1]), true
}

var theForm = regexp.MustCompile(`\A(0|[1-9][0-9]*)\.(0|[1-9][0-9]*)\z`)

// checkParse holds what is read of s against what it means; what was read must have s as its text.
func checkParse(t *testing.T, s string) {
	t.Helper()
	want, ok := meant(s)
	wantErr := api.OK
	if !ok {
		wantErr = api.ErrText
	}
	got, err := Parse(s)
	if got != want || err != wantErr {
		t.Errorf("Parse(%s): %#x, %d, not %#x, %d", short(s), got, err, want, wantErr)
	}
	if err == api.OK && Text(got) != s {
		t.Errorf("Parse(%s): %#x, of which the text is %q", short(s), got, Text(got))
	}
}

// checkNoText holds what is read of s against what it is of a text that is no handle's.
func checkNoText(t *testing.T, s string) {
	t.Helper()
	if got, err := Parse(s); got != 0 || err != api.ErrText {
		t.Errorf("Parse(%s): %#x, %d, not 0, %d", short(s), got, err, api.ErrText)
	}
}

// short tells a text, or what a long one begins with.
func short(s string) string {
	if len(s) > 60 {
		return fmt.Sprintf("%q.. of %d bytes", s[:40], len(s))
	}
	return fmt.Sprintf("%q", s)
}

// 30.1: Of, in numbers: the example, and the edges, with a mark and without.
func TestOfExamples(t *testing.T) {
	for _, x := range []struct{ ref, want uint64 }{
		{refer.Of(3, 2), 3*half + 2}, {refer.Mark(refer.Of(3, 2)), 3*half + 2},
		{3*half + 4, 3*half + 2}, {3*half + 5, 3*half + 2},
		{2, 1}, {3, 1}, {half + 2, half + 1}, {half + 3, half + 1}, {topHalf*half + 2, topHalf*half + 1}, {topHalf*half + 3, topHalf*half + 1},
		{0, 0}, {1, 0}, {half, half}, {half + 1, half}, {topHalf * half, topHalf * half}, {topHalf*half + 1, topHalf * half},
		{half - 4, topIndex - 1}, {half - 3, topIndex - 1}, {half - 2, topIndex}, {half - 1, topIndex},
		{2*half - 4, half + topIndex - 1}, {2*half - 3, half + topIndex - 1}, {2*half - 2, half + topIndex}, {2*half - 1, half + topIndex},
		{math.MaxUint64 - 3, topHalf*half + topIndex - 1}, {math.MaxUint64 - 2, topHalf*half + topIndex - 1},
		{math.MaxUint64 - 1, topHalf*half + topIndex}, {math.MaxUint64, topHalf*half + topIndex},
		{1 << 63, 1 << 63}, {1<<63 + 1<<31, 1<<63 + 1<<30},
	} {
		if got := Of(x.ref); got != x.want {
			t.Errorf("Of(%#x): %#x, not %#x", x.ref, got, x.want)
		}
	}
}

// 30.1: Of, of all references of the edges, and of words by chance: the index is without the mark, and the generation stays.
func TestOfIsBothParts(t *testing.T) {
	check := func(gen, index uint64) {
		for mark := range uint64(2) {
			ref := pair(gen, index*2+mark)
			if got := Of(ref); got != pair(gen, index) {
				t.Errorf("Of(%#x), of %d, %d, %d: %#x", ref, gen, index, mark, got)
			}
		}
	}
	for _, gen := range gens {
		for _, index := range refIndexes {
			check(gen, index)
		}
	}
	r := rand.New(rand.NewSource(2))
	for range 5000 {
		check(uint64(r.Uint32()), uint64(r.Int31()))
	}
}

// 30.1: Ref, in numbers: in plans of one slot, of a few, of the most, of none, and of numbers that no right plan has.
func TestRefExamples(t *testing.T) {
	for _, x := range []struct {
		slots   int
		h, want uint64
		ok      bool
	}{
		{3, 3*half + 2, 3*half + 4, true}, {3, 3*half + 1, 3*half + 2, true}, {3, 3*half + 3, 3*half + 6, true}, {3, 3*half + 4, 0, false}, {3, 3 * half, 0, false},
		{1, 1, 2, true}, {1, 2, 0, false}, {1, 0, 0, false}, {1, half, 0, false}, {1, half + 1, half + 2, true}, {1, topHalf*half + 1, topHalf*half + 2, true}, {1, topHalf*half + 2, 0, false},
		{64, 64, 128, true}, {64, 65, 0, false}, {64, topHalf*half + 64, topHalf*half + 128, true}, {64, topHalf*half + 65, 0, false},
		{64, topIndex, 0, false}, {64, topIndex + 1, 0, false}, {64, topIndex + 2, 0, false}, {64, topHalf, 0, false},
		{0, 0, 0, false}, {0, 1, 0, false}, {0, half, 0, false}, {0, topHalf, 0, false},
		{-1, 0, 0, false}, {-1, 1, 0, false}, {-1, topHalf, 0, false}, {-1, math.MaxUint64, 0, false},
		{math.MinInt, 0, 0, false}, {math.MinInt, 1, 0, false}, {math.MinInt, 1 << 31, 0, false}, {math.MinInt, topHalf, 0, false},
		{65, 65, 130, true}, {65, 66, 0, false},
		{topIndex - 1, topIndex - 1, half - 4, true}, {topIndex - 1, topIndex, 0, false},
		{topIndex, topIndex, half - 2, true}, {topIndex, topIndex + 1, 0, false},
		{topIndex + 1, topIndex, half - 2, true}, {topIndex + 1, topIndex + 1, 0, false}, {topIndex + 2, topIndex + 2, 0, false},
		{topHalf, topHalf, 0, false}, {half, topHalf, 0, false}, {half, 1, 2, true}, {half + 1, 2, 4, true},
		{math.MaxInt, 1, 2, true}, {math.MaxInt, 0, 0, false}, {math.MaxInt, half, 0, false}, {math.MaxInt, topHalf, 0, false}, {math.MaxInt, 1 << 63, 0, false},
		{math.MaxInt, topIndex, half - 2, true}, {math.MaxInt, topHalf*half + topIndex, math.MaxUint64 - 1, true}, {math.MaxInt, 1 << 31, 0, false}, {math.MaxInt, math.MaxUint64, 0, false},
	} {
		for _, p := range plans(x.slots) {
			if got, ok := Ref(p, x.h); got != x.want || ok != x.ok {
				t.Errorf("Ref(%v, %#x): %#x, %v, not %#x, %v", p, x.h, got, ok, x.want, x.ok)
			}
		}
	}
}

// 30.1: Ref, of all words, in plans of each number of slots; a reference has the handle's parts, and no mark.
func TestRefOfWords(t *testing.T) {
	for _, h := range pairs() {
		for _, n := range slots {
			for _, p := range plans(n) {
				checkRef(t, p, h)
			}
		}
	}
}

// 30.1: Ref, of the indexes at the end of the slots, in plans of as many as can be right, and of more by chance.
func TestRefAtTheLastSlot(t *testing.T) {
	r := rand.New(rand.NewSource(3))
	check := func(n int) {
		l := plans(n)
		for _, index := range []int{n - 1, n, n + 1, n + 2} {
			for _, gen := range []uint64{0, 1, uint64(r.Uint32()), topHalf} {
				checkRef(t, l[r.Intn(len(l))], pair(gen, uint64(index)))
			}
		}
	}
	for n := range api.MaxSlots + 3 {
		check(n)
	}
	for range 5000 {
		check(int(r.Uint64() >> r.Intn(64)))
		check(topIndex - 3 + r.Intn(8))
	}
}

// checkRef holds what is told of h in p against the chapter's sentence.
func checkRef(t *testing.T, p api.Plan, h uint64) {
	t.Helper()
	want, ok := uint64(0), known(p.Slots, h)
	if ok {
		want = pair(h/half, h%half*2)
	}
	got, right := Ref(p, h)
	if got != want || right != ok {
		t.Errorf("Ref(%v, %#x): %#x, %v, not %#x, %v", p, h, got, right, want, ok)
	}
	if refer.Marked(got) {
		t.Errorf("Ref(%v, %#x): %#x, which has a mark", p, h, got)
	}
	if right && (refer.Gen(got) != h/half || uint64(refer.Index(got)) != h%half) {
		t.Errorf("Ref(%v, %#x): %#x, of the parts %d, %d", p, h, got, refer.Gen(got), refer.Index(got))
	}
}

// 30.2: both ways, in letters: the example, and each edge on each side.
func TestTextExamples(t *testing.T) {
	for _, x := range []struct {
		h    uint64
		text string
	}{
		{3*half + 2, "3.2"}, {0, "0.0"}, {1, "0.1"}, {half, "1.0"}, {half + 1, "1.1"}, {9*half + 10, "9.10"}, {10*half + 9, "10.9"}, {10*half + 100, "10.100"},
		{topIndex, "0.2147483647"}, {topIndex + 1, "0.2147483648"}, {topHalf - 1, "0.4294967294"}, {topHalf, "0.4294967295"},
		{topIndex * half, "2147483647.0"}, {1 << 63, "2147483648.0"}, {1<<63 + 1<<31, "2147483648.2147483648"}, {1<<63 - 1, "2147483647.4294967295"},
		{topHalf * half, "4294967295.0"}, {topHalf*half + 1, "4294967295.1"}, {topHalf*half + topIndex, "4294967295.2147483647"}, {math.MaxUint64, "4294967295.4294967295"},
		{1000000000*half + 999999999, "1000000000.999999999"}, {20*half + 300, "20.300"}, {1234567890*half + 987654321, "1234567890.987654321"},
	} {
		if got := Text(x.h); got != x.text {
			t.Errorf("Text(%#x): %q, not %q", x.h, got, x.text)
		}
		if got, err := Parse(x.text); got != x.h || err != api.OK {
			t.Errorf("Parse(%q): %#x, %d, not %#x", x.text, got, err, x.h)
		}
	}
}

// 30.2: Text, of all words: the digits of both halves, and nothing else.
func TestTextOfWords(t *testing.T) {
	for _, h := range pairs() {
		if got, want := Text(h), fmt.Sprintf("%d.%d", h/half, h%half); got != want {
			t.Errorf("Text(%#x): %q, not %q", h, got, want)
		}
	}
}

// 30.2: texts that are no handle's.
func TestParseOfNoText(t *testing.T) {
	for _, s := range []string{
		"", ".", "0.", ".0", "3.", ".2", "..", "3..2", ".3.2", "3.2.", "..2", "3..", "3.2.1", "3.2.1.0", "0.0.0", "...", "3", "0", "32", "4294967295", "3,2", "3:2", "3 2", "3-2", "3/2",
		"03.2", "3.02", "00.0", "0.00", "00.2", "3.00", "01.01", "0000000003.2", "3.0000000002", "00000000003.2", "3.00000000002", "04294967295.0", "0.04294967295",
		"4294967296.1", "1.4294967296", "4294967296.4294967296", "4294967297.1", "1.4294967297", "5000000000.1", "1.9999999999", "9999999999.9999999999",
		"42949672960.1", "1.42949672960", "42949672950.1", "1.42949672951", "99999999999.1", "1.99999999999",
		"18446744073709551615.1", "18446744073709551616.1", "18446744073709551617.1", "1.18446744073709551617", "1.18446744073709551618", "1.184467440737095516160", "9223372036854775808.1", "1.9223372036854775809",
		"+3.2", "3.+2", "-3.2", "3.-2", "-0.0", "0.-0", "+0.0", "-3.-2", "--3.2", "3.2-", "3-.2", "3+.2", "-.2", "3.-", "+.+", "-1.2", "0.-1", "-4294967295.1",
		" 3.2", "3.2 ", "3 .2", "3. 2", " . ", " ", "3.2\n", "\n3.2", "3.2\r\n", "3\t.2", "3.\t2", "3.2\t", "3.2\v", "3.2\f", "3.2\u0085", "\u00a03.2", "3.2\u2003", "\ufeff3.2", "3.2\u200b",
		"a.2", "3.a", "a", "a.b", "3a.2", "3.2a", "a3.2", "3.a2", "0x3.2", "3.0x2", "0b1.2", "1.0o2", "3e0.2", "3.2e0", "1e1.2", "3.f", "f.3", "A.B", "inf.nan", "I.V", "3.2f", "1_0.2", "1.1_0", "_1.2", "1._2", "1_.2", "1'0.2", "1,000.2",
		"/.2", "3./", "3/.2", "3.2/", ":.2", "3.:", "3:.2", "3.2:", "9:.2", "1/.2", "\x00.2", "3.\x00", "3.2\x00", "\x003.2", "\x00", "\x00.\x00", "3\x00.2",
		"\xff", "\xff.2", "3.\xff", "3\xff.2", "3.2\xff", "\x803.2", "3.2\x80", "3\xae2", "\xb3.\xb2", "3\xc0\xae2", "3.2\xc3", "\xed\xa0\x80.2", "3\xff2",
		"3\u30022", "3\uff0e2", "3\u00b72", "\uff13.\uff12", "\u0663.\u0662", "\u00b3.\u00b2", "3.\u0662", "3\u0662.2", "\u96f6.\u96f6", "3.2\u0301",
		"3.2 3.2", "3.2,3.2", "3.2;", "3.2 live", "\"3.2\"", "'3.2'", "(3.2)", "handle 3.2", "3.2=", "3.2\x7f", "3.2#", "none", "0.1 0.2",
	} {
		if _, ok := meant(s); ok {
			t.Errorf("%q is a handle's text", s)
		}
		checkNoText(t, s)
	}
}

// 30.2: texts of many digits, of which some would be right numbers, were they cut, or went round, or had no noughts ahead.
func TestParseOfManyDigits(t *testing.T) {
	for _, n := range []int{10, 11, 12, 19, 20, 21, 32, 64, 100, 1000, 9999, 10000, 10001, 1 << 16, 1 << 20} {
		noughts, nines := strings.Repeat("0", n), strings.Repeat("9", n)
		round := new(big.Int).Lsh(big.NewInt(1), uint(min(4*n, 40000))) // its lowest 32 bits are 0
		for _, part := range []string{
			noughts, nines, "1" + noughts, "3" + noughts, noughts + "3", noughts + "4294967295", "4294967295" + noughts, nines + "4294967295",
			round.String(), new(big.Int).Add(round, big.NewInt(3)).String(), strings.Repeat("1", n+1), strings.Repeat("0123456789", n/10),
		} {
			for _, s := range []string{part, part + ".2", "3." + part, part + "." + part, part + ".", "." + part, "-" + part + ".2", "3." + part + "a", "3.2." + part, part + ".3.2"} {
				checkNoText(t, s)
			}
		}
		for _, s := range []string{strings.Repeat(".", n), strings.Repeat("1.", n), strings.Repeat(".1", n), strings.Repeat("3.2", n), strings.Repeat(" ", n) + "3.2", "3.2" + strings.Repeat(" ", n), strings.Repeat("\xff", n), strings.Repeat("a", n)} {
			checkNoText(t, s)
		}
	}
}

// 30.2: the numbers around each edge, on each side, read with as many digits as there are.
func TestParseAroundTheEdges(t *testing.T) {
	for _, edge := range []string{"0", "9", "10", "99", "2147483647", "2147483648", "4294967295", "4294967296", "8589934592", "10000000000", "42949672960", "9223372036854775808", "18446744073709551616", "79228162514264337593543950336"} {
		middle, _ := new(big.Int).SetString(edge, 10)
		for d := int64(-3); d <= 3; d++ {
			part := new(big.Int).Add(middle, big.NewInt(d)).String()
			for _, other := range []string{"0", "1", "2147483648", "4294967295", "4294967296", "00", "", "-1"} {
				checkParse(t, part+"."+other)
				checkParse(t, other+"."+part)
			}
		}
	}
}

// 30.2, 30.3: all short texts of such bytes as a handle's text has, and of such as it has not.
func TestParseOfAllShortTexts(t *testing.T) {
	letters := []byte{'0', '1', '9', '.', '-', '/', ':', 0xFF}
	last := []string{""}
	for range 6 {
		var next []string
		for _, s := range last {
			checkParse(t, s)
			for _, b := range letters {
				next = append(next, s+string([]byte{b}))
			}
		}
		last = next
	}
	for _, s := range last {
		checkParse(t, s)
	}
}

// 30.2, 30.3: texts of handles in which one byte is another one, one too many, or left out.
func TestParseOfTextsThatAreNear(t *testing.T) {
	for _, s := range []string{"3.2", "0.0", "10.64", "0.2147483648", "4294967295.4294967295", "999999999.1000000000", "429496729.429496729", "4294967290.4294967290"} {
		for i := range len(s) + 1 {
			for b := range 256 {
				one := string([]byte{byte(b)})
				checkParse(t, s[:i]+one+s[i:])
				if i < len(s) {
					checkParse(t, s[:i]+one+s[i+1:])
				}
			}
			if i < len(s) {
				checkParse(t, s[:i]+s[i+1:])
			}
			checkParse(t, s[:i])
			checkParse(t, s[i:])
			checkParse(t, s[i:]+s[:i])
		}
	}
}

// 30.2, 30.3: texts by chance, of digits and of any bytes.
func TestParseByChance(t *testing.T) {
	r := rand.New(rand.NewSource(4))
	letters := "0123456789012345678901234567890123456789...-+ a\x00\xff/:"
	for range 100000 {
		b := make([]byte, r.Intn(24))
		for i := range b {
			b[i] = letters[r.Intn(len(letters))]
		}
		checkParse(t, string(b))
		for i := range b {
			b[i] = byte(r.Intn(256))
		}
		checkParse(t, string(b))
		checkParse(t, fmt.Sprintf("%d.%d", r.Uint64()>>r.Intn(64), r.Uint64()>>r.Intn(64)))
	}
}

// 30.3: a handle's text is read as just that handle, and no two have the same one.
func TestTextIsReadAsItsHandle(t *testing.T) {
	texts := map[string]uint64{}
	for _, h := range pairs() {
		s := Text(h)
		if got, err := Parse(s); got != h || err != api.OK {
			t.Errorf("Parse(%q): %#x, %d, not %#x", s, got, err, h)
		}
		if other, ok := texts[s]; ok && other != h {
			t.Errorf("%q is the text of %#x, and of %#x", s, h, other)
		}
		texts[s] = h
	}
}

// 30.3: no other text is read as a handle: not with noughts or signs ahead, blanks about it, or the same number told in another way.
func TestNoOtherTextIsRead(t *testing.T) {
	for _, h := range pairs() {
		a, b := h/half, h%half
		for _, s := range []string{
			fmt.Sprintf("0%d.%d", a, b), fmt.Sprintf("%d.0%d", a, b), fmt.Sprintf("%011d.%d", a, b), fmt.Sprintf("%d.%011d", a, b), fmt.Sprintf("%020d.%020d", a, b),
			fmt.Sprintf("+%d.%d", a, b), fmt.Sprintf("%d.+%d", a, b), fmt.Sprintf("-%d.%d", a, b), fmt.Sprintf("%d.-%d", a, b),
			fmt.Sprintf(" %d.%d", a, b), fmt.Sprintf("%d.%d ", a, b), fmt.Sprintf("%d.%d\n", a, b), fmt.Sprintf("%d .%d", a, b), fmt.Sprintf("%d. %d", a, b),
			fmt.Sprintf("%#x.%#x", a, b), fmt.Sprintf("0b%b.%d", a, b), fmt.Sprintf("%d.0o%o", a, b), fmt.Sprintf("%d,%d", a, b), fmt.Sprintf("%d..%d", a, b), fmt.Sprintf("%d%d", a, b),
			fmt.Sprintf("%d.%d.", a, b), fmt.Sprintf(".%d.%d", a, b), fmt.Sprintf("%d.%d.0", a, b), fmt.Sprintf("%d.%d", a+half, b), fmt.Sprintf("%d.%d", a, b+half), fmt.Sprintf("%d", h),
		} {
			checkNoText(t, s)
		}
	}
}

// 30.3: the reference of a handle has it as its handle, with a mark too; and a plain reference is that of its handle.
func TestRefHasItsHandle(t *testing.T) {
	for _, h := range pairs() {
		for _, n := range slots {
			for _, p := range plans(n) {
				ref, ok := Ref(p, h)
				if !ok {
					continue
				}
				if Of(ref) != h || Of(refer.Mark(ref)) != h {
					t.Errorf("Of(Ref(%v, %#x)): %#x, and with a mark %#x", p, h, Of(ref), Of(refer.Mark(ref)))
				}
			}
		}
	}
	all := api.Plan{Threads: 1, Slots: topIndex, Levels: 1}
	for _, gen := range gens {
		for _, index := range refIndexes[1:] {
			ref := refer.Of(gen, int(index))
			if got, ok := Ref(all, Of(ref)); got != ref || !ok {
				t.Errorf("Ref of Of(%#x): %#x, %v", ref, got, ok)
			}
		}
	}
}
