package limbo

import (
	"math"
	"math/bits"
	"math/rand"
	"slices"
	"testing"

	"sundial/api"
)

// words are the edges of a word: of an epoch, and of a reference. All three lists have some of them, at either end.
var words = []uint64{
	0, 1, 2, 3, 4, 5, 6, 7, 1<<31 - 1, 1 << 31, 1<<32 - 1, 1 << 32, 1<<32 + 1, 1<<63 - 1, 1 << 63, 1<<63 + 1,
	math.MaxUint64 - 5, math.MaxUint64 - 4, math.MaxUint64 - 3, math.MaxUint64 - 2, math.MaxUint64 - 1, math.MaxUint64,
}

// slow is a limbo in one list, in the order in which the slots were added; all else is worked out by the chapter's sentences.
type slow struct{ slots []api.Retired }

func (s *slow) add(ref, epoch uint64) {
	s.slots = append(s.slots, api.Retired{Ref: ref, Epoch: epoch})
}

// all tells the slots of the list 0, then 1, then 2, each from its oldest one on.
func (s *slow) all() []api.Retired {
	var l []api.Retired
	for list := uint64(0); list < 3; list++ {
		for _, r := range s.slots {
			if r.Epoch%3 == list {
				l = append(l, r)
			}
		}
	}
	return l
}

// waited tells whether the epoch c is e + 2 or more: one whose sum goes round has no such epoch.
func waited(e, c uint64) bool {
	sum, round := bits.Add64(e, 2, 0)
	return round == 0 && c >= sum
}

// ripe tells the slots that are ripe, in the order of all, and lets go of them.
func (s *slow) ripe(c uint64) []api.Retired {
	var l, stay []api.Retired
	for _, r := range s.all() {
		if waited(r.Epoch, c) {
			l = append(l, r)
		}
	}
	for _, r := range s.slots {
		if !waited(r.Epoch, c) {
			stay = append(stay, r)
		}
	}
	s.slots = stay
	return l
}

func (s *slow) copy() *slow {
	return &slow{slots: slices.Clone(s.slots)}
}

// of makes slots of epochs; their references are 100, 101 and so on.
func of(epochs ...uint64) []api.Retired {
	var l []api.Retired
	for i, e := range epochs {
		l = append(l, api.Retired{Ref: 100 + uint64(i), Epoch: e})
	}
	return l
}

// filled makes a limbo to which these slots were added, in order, and its slow one.
func filled(slots ...api.Retired) (*Limbo, *slow) {
	l, s := New(), &slow{}
	for _, r := range slots {
		l.Add(r.Ref, r.Epoch)
		s.add(r.Ref, r.Epoch)
	}
	return l, s
}

// pick tells the slots at these places.
func pick(slots []api.Retired, places ...int) []api.Retired {
	var l []api.Retired
	for _, at := range places {
		l = append(l, slots[at])
	}
	return l
}

// same asks whether got is want.
func same(t *testing.T, what string, got, want []api.Retired) {
	t.Helper()
	if !slices.Equal(got, want) {
		t.Fatalf("%s: %v, not %v", what, got, want)
	}
}

// holds asks whether a limbo has these slots and no others, in this order, again and again.
func holds(t *testing.T, l *Limbo, want []api.Retired) {
	t.Helper()
	for range 2 {
		if n := l.Len(); n != len(want) {
			t.Fatalf("Len tells %d, not %d", n, len(want))
		}
		same(t, "All", l.All(), want)
	}
}

// ripens asks whether what is ripe in an epoch is told as the slow one does, once, and what stays behind it.
func ripens(t *testing.T, l *Limbo, s *slow, epoch uint64) []api.Retired {
	t.Helper()
	got, want := l.Ripe(epoch), s.ripe(epoch)
	same(t, "Ripe", got, want)
	holds(t, l, s.all())
	for range 2 {
		same(t, "Ripe once more", l.Ripe(epoch), nil)
	}
	holds(t, l, s.all())
	return got
}

// spoil writes into all that a list has, and into what room there is behind it.
func spoil(l []api.Retired) {
	room := l[:cap(l)]
	for i := range room {
		room[i] = api.Retired{Ref: 666, Epoch: 666}
	}
}

// 15.1: New has no slots, and nothing is ripe in it, in no epoch; each one that it makes is another one.
func TestNew(t *testing.T) {
	l, s := New(), &slow{}
	if l == nil {
		t.Fatal("New makes none")
	}
	holds(t, l, nil)
	for _, e := range words {
		ripens(t, l, s, e)
	}
	other := New()
	other.Add(1, 1)
	holds(t, l, nil)
	l.Add(2, 2)
	holds(t, l, []api.Retired{{Ref: 2, Epoch: 2}})
	holds(t, other, []api.Retired{{Ref: 1, Epoch: 1}})
	holds(t, New(), nil)
}

// The chapter's examples.
func TestExample(t *testing.T) {
	slots := []api.Retired{{Ref: 7, Epoch: 4}, {Ref: 8, Epoch: 5}, {Ref: 9, Epoch: 4}}
	l, _ := filled(slots...)
	holds(t, l, []api.Retired{{Ref: 7, Epoch: 4}, {Ref: 9, Epoch: 4}, {Ref: 8, Epoch: 5}})
	same(t, "in the epoch 5", l.Ripe(5), nil)
	holds(t, l, []api.Retired{{Ref: 7, Epoch: 4}, {Ref: 9, Epoch: 4}, {Ref: 8, Epoch: 5}})
	same(t, "in the epoch 6", l.Ripe(6), []api.Retired{{Ref: 7, Epoch: 4}, {Ref: 9, Epoch: 4}})
	holds(t, l, []api.Retired{{Ref: 8, Epoch: 5}})
	same(t, "in the epoch 7", l.Ripe(7), []api.Retired{{Ref: 8, Epoch: 5}})
	holds(t, l, nil)
}

// 15.1: a slot of any epoch and any reference is told as it was added, alone.
func TestAddOne(t *testing.T) {
	for _, e := range words {
		for _, ref := range words {
			l := New()
			l.Add(ref, e)
			holds(t, l, []api.Retired{{Ref: ref, Epoch: e}})
		}
	}
}

// 15.1: a slot goes behind the others of the list e mod 3, and All tells the list 0 first, then 1, then 2, whatever comes in which order.
func TestAddOrder(t *testing.T) {
	for _, c := range []struct {
		epochs []uint64
		order  []int
	}{
		{[]uint64{0, 1, 2}, []int{0, 1, 2}},
		{[]uint64{2, 1, 0}, []int{2, 1, 0}},
		{[]uint64{1, 2, 3}, []int{2, 0, 1}},
		{[]uint64{4, 5, 6}, []int{2, 0, 1}},
		{[]uint64{5, 4, 3, 4, 6}, []int{2, 4, 1, 3, 0}},
		{[]uint64{3, 6, 9, 0}, []int{0, 1, 2, 3}},
		{[]uint64{9, 6, 3, 0, 6}, []int{0, 1, 2, 3, 4}},
		{[]uint64{7, 1, 7, 4}, []int{0, 1, 2, 3}},
		{[]uint64{2, 8, 5, 2}, []int{0, 1, 2, 3}},
		{[]uint64{8, 7, 6, 5, 4, 3, 2, 1, 0}, []int{2, 5, 8, 1, 4, 7, 0, 3, 6}},
		{[]uint64{0, 0, 1, 1, 0, 2, 1}, []int{0, 1, 4, 2, 3, 6, 5}},
		// 2^64 - 1 and 2^32 - 1 are multiples of 3; 2^31 and 2^63 are in the list 2.
		{[]uint64{math.MaxUint64 - 1, math.MaxUint64, 1 << 63, 1<<63 + 1, math.MaxUint64 - 2}, []int{1, 3, 4, 0, 2}},
		{[]uint64{1 << 31, 1 << 32, 1<<32 - 1, 1<<31 - 1}, []int{2, 1, 3, 0}},
		{[]uint64{math.MaxUint64, 0, 3, math.MaxUint64 - 3}, []int{0, 1, 2, 3}},
	} {
		slots := of(c.epochs...)
		l := New()
		for i, r := range slots {
			l.Add(r.Ref, r.Epoch)
			if l.Len() != i+1 {
				t.Fatalf("%v: Len tells %d behind %d", c.epochs, l.Len(), i+1)
			}
		}
		holds(t, l, pick(slots, c.order...))
	}
}

// 15.1: All and Len between any two calls of Add, of all edges in turn, up, down, and all at once.
func TestAllBetween(t *testing.T) {
	down := slices.Clone(words)
	slices.Reverse(down)
	l, s := New(), &slow{}
	for i, e := range slices.Concat(words, down, words) {
		l.Add(uint64(i), e)
		s.add(uint64(i), e)
		holds(t, l, s.all())
	}
}

// 15.1: a reference that is 0, or that is there already, is one more slot, of the same epoch or of another one.
func TestReferences(t *testing.T) {
	slots := []api.Retired{{Ref: 0, Epoch: 6}, {Ref: 0, Epoch: 6}, {Ref: 5, Epoch: 6}, {Ref: 5, Epoch: 6}, {Ref: 5, Epoch: 7}, {Ref: 0, Epoch: 7}, {Ref: 5, Epoch: 9}, {Ref: 0, Epoch: 0}}
	l, s := filled(slots...)
	holds(t, l, pick(slots, 0, 1, 2, 3, 6, 7, 4, 5))
	same(t, "Ripe", ripens(t, l, s, 8), pick(slots, 0, 1, 2, 3, 7))
	same(t, "Ripe", ripens(t, l, s, 9), pick(slots, 4, 5))
	same(t, "Ripe", ripens(t, l, s, 11), pick(slots, 6))
	holds(t, l, nil)
}

// 15.1: limbos of very many slots.
func TestMany(t *testing.T) {
	l, s := New(), &slow{}
	for i := range uint64(5000) {
		l.Add(i, i/7)
		s.add(i, i/7)
	}
	holds(t, l, s.all())
	same(t, "Ripe", ripens(t, l, s, 400), l400())
	ripens(t, l, s, math.MaxUint64)
	holds(t, l, nil)
}

// l400 are those slots of TestMany that are ripe in the epoch 400: 7 of each epoch up to 398.
func l400() []api.Retired {
	var l []api.Retired
	for list := range uint64(3) {
		for e := list; e <= 398; e += 3 {
			for i := range uint64(7) {
				l = append(l, api.Retired{Ref: 7*e + i, Epoch: e})
			}
		}
	}
	return l
}

// 15.2: one slot, of an epoch e, is ripe in c just if that is e + 2 or more, of all edges and their neighbours.
func TestRipeOne(t *testing.T) {
	for _, e := range words {
		var around []uint64
		for d := range uint64(8) {
			around = append(around, e-4+d)
		}
		for _, c := range slices.Concat(words, around) {
			slot := api.Retired{Ref: 77, Epoch: e}
			l, _ := filled(slot)
			got := l.Ripe(c)
			if waited(e, c) {
				same(t, "Ripe", got, []api.Retired{slot})
				holds(t, l, nil)
				same(t, "Ripe again", l.Ripe(c), nil)
				continue
			}
			same(t, "Ripe", got, nil)
			holds(t, l, []api.Retired{slot})
		}
	}
}

// 15.2: in numbers: what is ripe where, in the order of All, and what stays.
func TestRipeNumbers(t *testing.T) {
	const most = math.MaxUint64
	for _, c := range []struct {
		epochs     []uint64
		epoch      uint64
		ripe, stay []int
	}{
		{[]uint64{0}, 0, nil, []int{0}},
		{[]uint64{0}, 1, nil, []int{0}},
		{[]uint64{0}, 2, []int{0}, nil},
		{[]uint64{0}, most, []int{0}, nil},
		{[]uint64{1}, 2, nil, []int{0}},
		{[]uint64{1}, 3, []int{0}, nil},
		{[]uint64{2}, 1, nil, []int{0}},
		{[]uint64{2}, 0, nil, []int{0}},
		{[]uint64{5, 4, 3, 4, 6}, 4, nil, []int{2, 4, 1, 3, 0}},
		{[]uint64{5, 4, 3, 4, 6}, 5, []int{2}, []int{4, 1, 3, 0}},
		{[]uint64{5, 4, 3, 4, 6}, 6, []int{2, 1, 3}, []int{4, 0}},
		{[]uint64{5, 4, 3, 4, 6}, 7, []int{2, 1, 3, 0}, []int{4}},
		{[]uint64{5, 4, 3, 4, 6}, 8, []int{2, 4, 1, 3, 0}, nil},
		// The slots of one list, of which the ones behind are ripe, or the one between.
		{[]uint64{9, 3, 6, 0}, 6, []int{1, 3}, []int{0, 2}},
		{[]uint64{9, 3, 9, 12}, 5, []int{1}, []int{0, 2, 3}},
		{[]uint64{3, 9, 6, 3}, 10, []int{0, 2, 3}, []int{1}},
		// Of the two greatest words no epoch is two later.
		{[]uint64{most, most - 1, most - 2, most - 3}, most, []int{3, 2}, []int{0, 1}},
		{[]uint64{most, most - 1, most - 2, most - 3}, most - 1, []int{3}, []int{0, 2, 1}},
		{[]uint64{most, most - 1}, 0, nil, []int{0, 1}},
		{[]uint64{most, most - 1}, 1, nil, []int{0, 1}},
		{[]uint64{most, most - 1}, 2, nil, []int{0, 1}},
		{[]uint64{most, 0, most - 1, 1}, 3, []int{1, 3}, []int{0, 2}},
	} {
		slots := of(c.epochs...)
		l, _ := filled(slots...)
		same(t, "Ripe", l.Ripe(c.epoch), pick(slots, c.ripe...))
		holds(t, l, pick(slots, c.stay...))
		same(t, "Ripe again", l.Ripe(c.epoch), nil)
		holds(t, l, pick(slots, c.stay...))
	}
}

// 15.2: again and again, in the same epoch, in a later one, and in an earlier one.
func TestRipeAgain(t *testing.T) {
	slots := of(3, 4, 5, 6, 7, 8)
	l, _ := filled(slots...)
	for _, c := range []struct {
		epoch uint64
		ripe  []int
		stay  []int
	}{
		{4, nil, []int{0, 3, 1, 4, 2, 5}},
		{6, []int{0, 1}, []int{3, 4, 2, 5}},
		{6, nil, []int{3, 4, 2, 5}},
		{5, nil, []int{3, 4, 2, 5}},
		{0, nil, []int{3, 4, 2, 5}},
		{7, []int{2}, []int{3, 4, 5}},
		{6, nil, []int{3, 4, 5}},
		{10, []int{3, 4, 5}, nil},
		{10, nil, nil},
		{math.MaxUint64, nil, nil},
		{1, nil, nil},
	} {
		same(t, "Ripe", l.Ripe(c.epoch), pick(slots, c.ripe...))
		holds(t, l, pick(slots, c.stay...))
	}
}

// 15.1, 15.2: what is added behind Ripe stands behind what stayed, in its list, and is ripe in its own time.
func TestAddBehindRipe(t *testing.T) {
	slots := of(3, 6, 3, 4, 7, 5)
	l, _ := filled(slots...)
	same(t, "Ripe", l.Ripe(5), pick(slots, 0, 2))
	l.Add(1, 6)
	l.Add(2, 3)
	l.Add(3, 4)
	holds(t, l, []api.Retired{slots[1], {Ref: 1, Epoch: 6}, {Ref: 2, Epoch: 3}, slots[3], slots[4], {Ref: 3, Epoch: 4}, slots[5]})
	same(t, "Ripe again", l.Ripe(5), []api.Retired{{Ref: 2, Epoch: 3}})
	same(t, "Ripe in 6", l.Ripe(6), []api.Retired{slots[3], {Ref: 3, Epoch: 4}})
	holds(t, l, []api.Retired{slots[1], {Ref: 1, Epoch: 6}, slots[4], slots[5]})
	same(t, "Ripe in 9", l.Ripe(9), []api.Retired{slots[1], {Ref: 1, Epoch: 6}, slots[4], slots[5]})
	holds(t, l, nil)
	l.Add(8, 7)
	holds(t, l, []api.Retired{{Ref: 8, Epoch: 7}})
	same(t, "Ripe in 9 again", l.Ripe(9), []api.Retired{{Ref: 8, Epoch: 7}})
	holds(t, l, nil)
}

// 15.1: a Copy has the same slots, and either one goes its own way, whichever is added to, or asked for what is ripe.
func TestCopy(t *testing.T) {
	for n := range 12 {
		slots := of(3, 5, 4, 4, 9, 3, 7, 2, 6, 5, 4)[:n]
		for which := range 2 {
			l, s := filled(slots...)
			other := l.Copy()
			if other == nil || other == l {
				t.Fatal("a Copy is another one")
			}
			holds(t, other, s.all())
			pair, stays := [2]*Limbo{l, other}, s.copy()
			one, two := pair[which], pair[1-which]
			for e := range uint64(6) {
				one.Add(e, e)
				s.add(e, e)
				holds(t, one, s.all())
				holds(t, two, stays.all())
			}
			// Where both lists have room behind them, neither writes into the other's.
			two.Add(50, 4)
			stays.add(50, 4)
			two.Add(51, 6)
			stays.add(51, 6)
			holds(t, one, s.all())
			holds(t, two, stays.all())
			ripens(t, one, s, 6)
			holds(t, two, stays.all())
			ripens(t, two, stays, 5)
			holds(t, one, s.all())
			ripens(t, two, stays, 60)
			holds(t, one, s.all())
			ripens(t, one, s, 60)
		}
	}
}

// 15.1: a Copy of a limbo that had slots, and has none any more, and a Copy of a Copy.
func TestCopyOfNone(t *testing.T) {
	l, s := filled(of(1, 2, 3)...)
	ripens(t, l, s, 9)
	other := l.Copy()
	holds(t, other, nil)
	third := other.Copy()
	l.Add(1, 1)
	other.Add(2, 2)
	third.Add(3, 3)
	holds(t, l, []api.Retired{{Ref: 1, Epoch: 1}})
	holds(t, other, []api.Retired{{Ref: 2, Epoch: 2}})
	holds(t, third, []api.Retired{{Ref: 3, Epoch: 3}})
}

// R4: what All and Ripe told is new memory: written into, it changes no limbo, and nothing that is added later changes it.
func TestNewMemory(t *testing.T) {
	for n := range 10 {
		slots := of(3, 5, 4, 6, 4, 3, 9, 7, 8)[:n]
		l, s := filled(slots...)
		other := l.Copy()
		twin := l.All()
		spoil(l.All())
		same(t, "All, told ahead", twin, s.all())
		holds(t, l, s.all())
		holds(t, other, s.all())

		kept, was := l.All(), s.all()
		early, was2 := l.Ripe(6), s.ripe(6)
		same(t, "Ripe", early, was2)
		for e := range uint64(12) {
			l.Add(e, e)
			s.add(e, e)
			same(t, "All, told earlier", kept, was)
			same(t, "Ripe, told earlier", early, was2)
		}
		later, was3 := l.Ripe(8), s.ripe(8)
		same(t, "Ripe", later, was3)
		spoil(early)
		same(t, "All, told earlier", kept, was)
		same(t, "Ripe, told later", later, was3)
		holds(t, l, s.all())
		spoil(kept)
		spoil(later)
		holds(t, l, s.all())
		holds(t, other, was)
		for e := range uint64(12) {
			l.Add(e, e+1)
			s.add(e, e+1)
		}
		holds(t, l, s.all())
		ripens(t, l, s, 9)
		spoil(l.All())
		ripens(t, l, s, 30)
	}
}

// A nil limbo has nothing, and is changed by nothing.
func TestNil(t *testing.T) {
	var l *Limbo
	for _, e := range words {
		l.Add(1, e)
		if l != nil || len(l.All()) != 0 || l.Len() != 0 || len(l.Ripe(e)) != 0 || l.Copy() != nil {
			t.Fatalf("a nil limbo has something, behind a slot of %d", e)
		}
	}
}

// One that no call made is as New's.
func TestMadeByNoCall(t *testing.T) {
	var zero, first, third Limbo
	holds(t, &zero, nil)
	ripens(t, &zero, &slow{}, 9)
	holds(t, zero.Copy(), nil)
	zero.Copy().Add(1, 1)
	holds(t, &zero, nil)
	s := &slow{}
	for i, r := range of(3, 4, 5, 4, 3, math.MaxUint64) {
		zero.Add(r.Ref, r.Epoch)
		s.add(r.Ref, r.Epoch)
		if zero.Len() != i+1 {
			t.Fatalf("Len tells %d, not %d", zero.Len(), i+1)
		}
	}
	holds(t, &zero, s.all())
	holds(t, zero.Copy(), s.all())
	ripens(t, &zero, s, 6)
	ripens(t, &zero, s, math.MaxUint64)
	holds(t, &zero, []api.Retired{{Ref: 105, Epoch: math.MaxUint64}})
	same(t, "Ripe", first.Ripe(2), nil)
	first.Add(1, 0)
	same(t, "Ripe", first.Ripe(2), []api.Retired{{Ref: 1}})
	if third.Len() != 0 || len(third.All()) != 0 {
		t.Fatal("one that no call made has slots of others")
	}
}

// 15.1, 15.2: limbos, added to, asked and copied by chance, against the slow one, with all others unchanged.
func TestByChance(t *testing.T) {
	r := rand.New(rand.NewSource(15))
	for round := range 300 {
		base := []uint64{0, 1, 5, 1 << 32, 1 << 63, math.MaxUint64 - 12}[round%6]
		limbos, slows := []*Limbo{New()}, []*slow{{}}
		for range 60 {
			at := r.Intn(len(limbos))
			l, s := limbos[at], slows[at]
			switch r.Intn(12) {
			case 0:
				if len(limbos) < 4 {
					limbos, slows = append(limbos, l.Copy()), append(slows, s.copy())
				}
			case 1, 2, 3:
				spoil(ripens(t, l, s, base+r.Uint64()%14))
			case 4:
				spoil(l.All())
			case 5:
				ref, e := words[r.Intn(len(words))], words[r.Intn(len(words))]
				l.Add(ref, e)
				s.add(ref, e)
			default:
				ref, e := r.Uint64()%9, base+r.Uint64()%12
				l.Add(ref, e)
				s.add(ref, e)
			}
			for i := range limbos {
				holds(t, limbos[i], slows[i].all())
			}
		}
	}
}

// 15.3: of epochs that rise, each slot that is added is told once as ripe, two epochs later at the earliest, and no other one. It is so of those that fall, too.
func TestOnce(t *testing.T) {
	r := rand.New(rand.NewSource(153))
	for round := range 200 {
		l, now, added, told := New(), r.Uint64()%5, uint64(0), map[uint64]uint64{}
		if round%4 == 0 {
			now = math.MaxUint64 - 400
		}
		retired := map[uint64]uint64{}
		for range 150 {
			switch r.Intn(5) {
			case 0:
				now += 1 + r.Uint64()%2
			case 1:
				for _, x := range l.Ripe(now) {
					_, twice := told[x.Ref]
					e, ours := retired[x.Ref]
					if twice || !ours || e != x.Epoch || now < e+2 {
						t.Fatalf("%v is told in %d: twice %v, added %v, in %d", x, now, twice, ours, e)
					}
					told[x.Ref] = now
				}
				for ref, e := range retired {
					if _, is := told[ref]; !is && now-e >= 2 {
						t.Fatalf("%d of %d is not told in %d", ref, e, now)
					}
				}
			default:
				e := now
				if round%2 == 1 {
					e -= min(e, r.Uint64()%3)
				}
				added++
				l.Add(added, e)
				retired[added] = e
			}
			if l.Len() != len(retired)-len(told) {
				t.Fatalf("%d wait, of %d that were added and %d that were told", l.Len(), len(retired), len(told))
			}
		}
		for _, x := range l.Ripe(now + 2) {
			if _, twice := told[x.Ref]; twice {
				t.Fatalf("%v is told twice", x)
			}
			told[x.Ref] = now + 2
		}
		if len(told) != len(retired) || l.Len() != 0 || len(l.Ripe(now+2)) != 0 {
			t.Fatalf("%d told, of %d; %d are left", len(told), len(retired), l.Len())
		}
	}
}
