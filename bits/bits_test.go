package bits_test

import (
	"math"
	"math/rand"
	"slices"
	"testing"

	"sextant/api"
	"sextant/bits"
)

// edgeRooms are rooms about the ends of words, and the least and the greatest.
func edgeRooms() []int {
	return []int{0, 1, 2, 63, 64, 65, 70, 127, 128, 129, 1000, 4032, 4033, 4095, api.MaxCalls}
}

func outside(room int) []int {
	return []int{room, room + 1, room + 63, room + 64, -1, -64, -65, api.MaxCalls, math.MaxInt32, math.MinInt32, math.MaxInt, math.MinInt}
}

func setOf(t *testing.T, room int, numbers ...int) *bits.Set {
	t.Helper()
	s, e := bits.New(room)
	if e != api.OK || s == nil {
		t.Fatalf("New(%d): %d", room, e)
	}
	for _, i := range numbers {
		if e := s.Put(i); e != api.OK {
			t.Fatalf("Put(%d) in a room of %d: %d", i, room, e)
		}
	}
	return s
}

func numbersOf(s *bits.Set) []int {
	l := []int{}
	for i := range s.All() {
		l = append(l, i)
	}
	return l
}

// model is a set as a row of bools, one for each number of the room.
type model []bool

func (m model) numbers() []int {
	l := []int{}
	for i, in := range m {
		if in {
			l = append(l, i)
		}
	}
	return l
}

// words tells the words in the chapter's words, number by number.
func (m model) words() []uint64 {
	l := make([]uint64, (len(m)+63)/64)
	for i, in := range m {
		if in {
			l[i/64] += uint64(math.Pow(2, float64(i%64)))
		}
	}
	return l
}

// hold fails unless s tells the same as the model in all ways.
func hold(t *testing.T, what string, s *bits.Set, m model) {
	t.Helper()
	if s.Room() != len(m) {
		t.Fatalf("%s: Room %d, not %d", what, s.Room(), len(m))
	}
	if got, want := numbersOf(s), m.numbers(); !slices.Equal(got, want) || s.Count() != len(want) {
		t.Fatalf("%s: All %v, Count %d, not %v", what, got, s.Count(), want)
	}
	if got, want := s.Words(), m.words(); !slices.Equal(got, want) {
		t.Fatalf("%s: Words %v, not %v", what, got, want)
	}
	for i, in := range m {
		if s.Has(i) != in {
			t.Fatalf("%s: Has(%d) %v", what, i, s.Has(i))
		}
	}
}

// sample answers a set of some numbers and its model; of a share of 0 the empty set, of 10 the full one.
func sample(t *testing.T, r *rand.Rand, room, share int) (*bits.Set, model) {
	s, m := setOf(t, room), make(model, room)
	for i := range m {
		if r.Intn(10) < share {
			m[i] = true
			s.Put(i)
		}
	}
	return s, m
}

// P3.1

func TestNewIsEmptyAndHasItsRoom(t *testing.T) {
	for _, n := range edgeRooms() {
		hold(t, "New", setOf(t, n), make(model, n))
	}
}

func TestNewRefusesRooms(t *testing.T) {
	for _, n := range []int{-1, -64, api.MaxCalls + 1, api.MaxCalls + 64, math.MaxInt, math.MinInt, math.MaxInt - 62} {
		if s, e := bits.New(n); s != nil || e != api.ErrBits {
			t.Errorf("New(%d): %v, %d", n, s, e)
		}
	}
}

func TestOfIsTheSetThatWordsSay(t *testing.T) {
	r := rand.New(rand.NewSource(31))
	for _, n := range edgeRooms() {
		for share := range 11 {
			_, m := sample(t, r, n, share)
			s, e := bits.Of(n, m.words())
			if e != api.OK {
				t.Fatalf("Of(%d): %d", n, e)
			}
			hold(t, "Of", s, m)
		}
	}
}

func TestOfNoRoom(t *testing.T) {
	for _, words := range [][]uint64{nil, {}} {
		s, e := bits.Of(0, words)
		if e != api.OK || s == nil {
			t.Fatal(e)
		}
		hold(t, "Of(0)", s, model{})
		if s.Put(0) != api.ErrBits || s.Drop(0) != api.ErrBits || s.Has(0) {
			t.Error("a number in no room")
		}
		if o := setOf(t, 0); !s.Same(o) || !s.Within(o) || s.Or(o) != api.OK || s.And(o) != api.OK || s.Without(o) != api.OK {
			t.Error("two sets of no room")
		}
		if s.Copy() == nil {
			t.Error("Copy: nil of a set")
		}
	}
}

func TestOfRefusesRooms(t *testing.T) {
	for _, n := range []int{-1, -63, -64, api.MaxCalls + 1, math.MaxInt, math.MinInt} {
		for _, many := range []int{0, 1, 64, 65} {
			if s, e := bits.Of(n, make([]uint64, many)); s != nil || e != api.ErrBits {
				t.Errorf("Of(%d, %d words): %v, %d", n, many, s, e)
			}
		}
	}
}

func TestOfRefusesOtherNumbersOfWords(t *testing.T) {
	for _, n := range edgeRooms() {
		just := (n + 63) / 64
		for many := range just + 3 {
			s, e := bits.Of(n, make([]uint64, many))
			if (e == api.OK) != (many == just) || (s != nil) != (many == just) || e != api.OK && e != api.ErrBits {
				t.Errorf("Of(%d, %d words): %v, %d", n, many, s, e)
			}
		}
	}
}

func TestOfRefusesBitsFromTheRoomOn(t *testing.T) {
	for _, n := range edgeRooms() {
		words := make([]uint64, (n+63)/64)
		for i := range 64 * len(words) {
			words[i/64] = 1 << (i % 64)
			s, e := bits.Of(n, words)
			if i < n && (e != api.OK || !s.Has(i) || s.Count() != 1) || i >= n && (e != api.ErrBits || s != nil) {
				t.Errorf("Of(%d), bit %d: %d", n, i, e)
			}
			words[i/64] = 0
		}
	}
	if s, e := bits.Of(70, []uint64{0, 64}); s != nil || e != api.ErrBits {
		t.Error("bit 70 of 70:", e)
	}
	if s, e := bits.Of(70, []uint64{math.MaxUint64, math.MaxUint64}); s != nil || e != api.ErrBits {
		t.Error("all bits, of 70:", e)
	}
}

// P3.2

func TestPutExample(t *testing.T) {
	s := setOf(t, 70)
	if s.Put(3) != api.OK || s.Put(69) != api.OK || s.Put(70) != api.ErrBits {
		t.Error("Put")
	}
	if w := s.Words(); !slices.Equal(w, []uint64{8, 32}) {
		t.Error("Words:", w)
	}
	if l := numbersOf(s); !slices.Equal(l, []int{3, 69}) {
		t.Error("All:", l)
	}
}

func TestPutAndDropOneNumber(t *testing.T) {
	for _, n := range edgeRooms() {
		if n > 200 {
			continue
		}
		for i := range n {
			empty, full := make(model, n), make(model, n)
			for k := range full {
				full[k] = true
			}
			s := setOf(t, n)
			u, _ := bits.Of(n, full.words())
			for range 2 { // whether it was in or not
				empty[i], full[i] = true, false
				if s.Put(i) != api.OK || u.Drop(i) != api.OK {
					t.Fatal("Put, Drop:", i)
				}
				hold(t, "Put", s, empty)
				hold(t, "Drop", u, full)
			}
			if s.Drop(i) != api.OK || s.Drop(i) != api.OK || u.Put(i) != api.OK {
				t.Fatal("Drop, Put:", i)
			}
			empty[i], full[i] = false, true
			hold(t, "Drop of what was put", s, empty)
			hold(t, "Put of what was dropped", u, full)
		}
	}
}

func TestNumbersOutOfTheRoom(t *testing.T) {
	r := rand.New(rand.NewSource(32))
	for _, n := range edgeRooms() {
		s, m := sample(t, r, n, 5)
		for _, i := range outside(n) {
			if i >= 0 && i < n {
				continue
			}
			if e := s.Put(i); e != api.ErrBits {
				t.Errorf("Put(%d) in a room of %d: %d", i, n, e)
			}
			if e := s.Drop(i); e != api.ErrBits {
				t.Errorf("Drop(%d) in a room of %d: %d", i, n, e)
			}
			if s.Has(i) {
				t.Errorf("Has(%d) in a room of %d", i, n)
			}
		}
		hold(t, "after numbers out of the room", s, m)
	}
}

func TestPutsAndDropsInARow(t *testing.T) {
	r := rand.New(rand.NewSource(33))
	for _, n := range edgeRooms()[1:] {
		s, m := sample(t, r, n, 3)
		for range 300 {
			i := r.Intn(n)
			if r.Intn(2) == 0 {
				s.Put(i)
				m[i] = true
			} else {
				s.Drop(i)
				m[i] = false
			}
		}
		hold(t, "in a row", s, m)
	}
}

func TestAllIsAsItWasWhenTheRangingBegan(t *testing.T) {
	s := setOf(t, 200, 1, 63, 64, 130)
	all := s.All()
	s.Put(199) // ahead of the ranging
	s.Drop(1)
	var l []int
	for i := range all {
		l = append(l, i)
		if i == 63 {
			for _, k := range []int{0, 62, 65, 131, 198} {
				s.Put(k)
			}
			s.Drop(64)
			s.Drop(130)
		}
	}
	if !slices.Equal(l, []int{63, 64, 130, 199}) {
		t.Error("the first time:", l)
	}
	if l := slices.Collect(all); !slices.Equal(l, []int{0, 62, 63, 65, 131, 198, 199}) {
		t.Error("the second time:", l)
	}
}

func TestAllMayBeLeftAndGoneThroughAgain(t *testing.T) {
	want := []int{0, 3, 63, 64, 69}
	s := setOf(t, 70, want...)
	all := s.All()
	for stop := range want {
		var l []int
		for i := range all {
			l = append(l, i)
			if len(l) > stop {
				break
			}
		}
		if !slices.Equal(l, want[:stop+1]) {
			t.Error("left early:", l)
		}
	}
	var l []int
	for i := range all {
		for j := range all { // a ranging within another one of the same iterator
			l = append(l, 100*i+j)
			if j >= 63 {
				break
			}
		}
	}
	if !slices.Equal(l, []int{0, 3, 63, 300, 303, 363, 6300, 6303, 6363, 6400, 6403, 6463, 6900, 6903, 6963}) {
		t.Error("one in another:", l)
	}
	for range 2 {
		if l := slices.Collect(all); !slices.Equal(l, want) {
			t.Error("again:", l)
		}
	}
}

// P3.3 and P3.5

// operation is one of Or, And, Without, with what it is of two numbers' being in.
type operation struct {
	name string
	do   func(s, t *bits.Set) api.Errno
	of   func(a, b bool) bool
}

func operations() []operation {
	return []operation{
		{"Or", (*bits.Set).Or, func(a, b bool) bool { return a || b }},
		{"And", (*bits.Set).And, func(a, b bool) bool { return a && b }},
		{"Without", (*bits.Set).Without, func(a, b bool) bool { return a && !b }},
	}
}

func TestOrAndWithout(t *testing.T) {
	r := rand.New(rand.NewSource(34))
	for _, n := range edgeRooms() {
		for _, op := range operations() {
			for range 8 {
				s, m := sample(t, r, n, r.Intn(11))
				u, k := sample(t, r, n, r.Intn(11))
				want := make(model, n)
				for i := range want {
					want[i] = op.of(m[i], k[i])
				}
				if e := op.do(s, u); e != api.OK {
					t.Fatal(op.name, e)
				}
				hold(t, op.name, s, want)
				hold(t, op.name+": the other", u, k)
			}
		}
	}
}

func TestOrAndWithoutOfOneSet(t *testing.T) {
	r := rand.New(rand.NewSource(35))
	for _, n := range edgeRooms() {
		for _, op := range operations() {
			s, m := sample(t, r, n, 5)
			for i := range m {
				m[i] = op.of(m[i], m[i])
			}
			if e := op.do(s, s); e != api.OK {
				t.Fatal(op.name, e)
			}
			hold(t, op.name+" of one set", s, m)
		}
	}
}

func TestOrAndWithoutRefuse(t *testing.T) {
	for _, op := range operations() {
		s := setOf(t, 70, 3, 69)
		wrong := []*bits.Set{nil, new(bits.Set), setOf(t, 69, 3), setOf(t, 71, 3), setOf(t, 128, 3), setOf(t, 0)}
		for i, u := range wrong {
			if e := op.do(s, u); e != api.ErrBits {
				t.Error(op.name, i, e)
			}
		}
		if !slices.Equal(numbersOf(s), []int{3, 69}) || s.Room() != 70 {
			t.Error(op.name, "changed", numbersOf(s))
		}
		for i, u := range append(wrong, s) {
			if e := op.do(nil, u); e != api.ErrNil {
				t.Error(op.name, "of nil", i, e)
			}
			if e := op.do(new(bits.Set), u); e != api.ErrNil {
				t.Error(op.name, "of a zero value", i, e)
			}
		}
		for _, u := range wrong[2:5] {
			if !slices.Equal(numbersOf(u), []int{3}) {
				t.Error(op.name, "changed the other", numbersOf(u))
			}
		}
		// No room is a room, too: not that of a set that is none.
		if e := op.do(setOf(t, 0), new(bits.Set)); e != api.ErrBits {
			t.Error(op.name, "with a zero value:", e)
		}
	}
}

func TestWithinAndSame(t *testing.T) {
	for _, n := range []int{1, 2, 3, 4} { // all pairs of sets of small rooms
		for a := range uint64(1) << n {
			for b := range uint64(1) << n {
				s, _ := bits.Of(n, []uint64{a})
				u, _ := bits.Of(n, []uint64{b})
				if s.Within(u) != (a&b == a) || s.Same(u) != (a == b) {
					t.Errorf("%b, %b: Within %v, Same %v", a, b, s.Within(u), s.Same(u))
				}
			}
		}
	}
	for _, n := range edgeRooms()[1:] { // one number more, in each word
		for i := 0; i < n; i += 31 {
			s := setOf(t, n, 0, n/2, n-1)
			s.Drop(i)
			u := s.Copy()
			if !s.Same(u) || !u.Same(s) || !s.Within(u) || !s.Same(s) || !s.Within(s) {
				t.Fatal("alike:", n, i)
			}
			u.Put(i)
			if s.Same(u) || u.Same(s) || !s.Within(u) || u.Within(s) {
				t.Fatal("one more:", n, i)
			}
		}
	}
}

func TestWithinAndSameOfUnlikeRooms(t *testing.T) {
	sets := []*bits.Set{nil, new(bits.Set), setOf(t, 0), setOf(t, 1), setOf(t, 64), setOf(t, 65), setOf(t, 69, 3), setOf(t, 70, 3), setOf(t, 128, 3)}
	for i, s := range sets {
		for j, u := range sets {
			want := i == j && i > 1
			if s.Within(u) != want || s.Same(u) != want {
				t.Error(i, j, s.Within(u), s.Same(u))
			}
		}
	}
	if new(bits.Set).Same(new(bits.Set)) || new(bits.Set).Within(new(bits.Set)) {
		t.Error("two zero values")
	}
}

func TestCopyIsASetOfItsOwn(t *testing.T) {
	r := rand.New(rand.NewSource(36))
	for _, n := range edgeRooms()[1:] {
		s, m := sample(t, r, n, 5)
		c := s.Copy()
		hold(t, "Copy", c, m)
		if !c.Same(s) {
			t.Fatal("a copy that is not alike")
		}
		was := slices.Clone(m)
		for i := range n {
			if m[i] {
				s.Drop(i)
			} else {
				s.Put(i)
			}
			m[i] = !m[i]
		}
		hold(t, "the copy", c, was)
		c.Without(c)
		hold(t, "the set", s, m)
	}
	if (*bits.Set)(nil).Copy() != nil || new(bits.Set).Copy() != nil {
		t.Error("a copy of none")
	}
}

func TestSetsArePartedByAnother(t *testing.T) {
	r := rand.New(rand.NewSource(37))
	for _, n := range edgeRooms() {
		for range 8 {
			s, m := sample(t, r, n, r.Intn(11))
			u, k := sample(t, r, n, r.Intn(11))
			rest, both := s.Copy(), s.Copy()
			rest.Without(u)
			both.And(u)
			none := rest.Copy()
			none.And(both)
			if none.Count() != 0 || rest.Count()+both.Count() != s.Count() {
				t.Fatal("a number in common:", numbersOf(none))
			}
			rest.Or(both)
			if !rest.Same(s) || !both.Within(u) || !both.Within(s) {
				t.Fatal("together they are", numbersOf(rest))
			}
			hold(t, "s", s, m)
			hold(t, "t", u, k)
		}
	}
}

// R1

func TestSetsThatNoCallMade(t *testing.T) {
	for _, s := range []*bits.Set{nil, new(bits.Set), {}} {
		for _, i := range []int{0, 1, -1, 64, math.MaxInt, math.MinInt} {
			if s.Put(i) != api.ErrNil || s.Drop(i) != api.ErrNil || s.Has(i) {
				t.Error("Put, Drop, Has:", i)
			}
		}
		if s.Room() != 0 || s.Count() != 0 || len(s.Words()) != 0 || s.Copy() != nil {
			t.Error("Room, Count, Words, Copy")
		}
		all := s.All()
		if all == nil {
			t.Fatal("All: no iterator")
		}
		for i := range all {
			t.Error("All:", i)
		}
		if s.Or(s) != api.ErrNil || s.And(s) != api.ErrNil || s.Without(s) != api.ErrNil || s.Within(s) || s.Same(s) {
			t.Error("with itself")
		}
	}
}

// R3 and R4

func TestWordsAreTheCallersOwn(t *testing.T) {
	s := setOf(t, 130, 3, 69, 129)
	w := s.Words()
	clear(w)
	if again := s.Words(); !slices.Equal(again, []uint64{8, 32, 2}) {
		t.Error("the set changed with its words:", again)
	}
	w = s.Words()
	s.Put(4)
	if !slices.Equal(w, []uint64{8, 32, 2}) {
		t.Error("the words changed with their set:", w)
	}
}

func TestOfKeepsNoWords(t *testing.T) {
	w := []uint64{8, 32, 2}
	s, _ := bits.Of(130, w)
	u, _ := bits.Of(130, w)
	s.Put(4)
	s.Drop(69)
	if !slices.Equal(w, []uint64{8, 32, 2}) || !slices.Equal(u.Words(), w) {
		t.Error("changed with a set:", w, u.Words())
	}
	clear(w)
	if !slices.Equal(numbersOf(s), []int{3, 4, 129}) || !slices.Equal(numbersOf(u), []int{3, 69, 129}) {
		t.Error("the sets changed with the words:", numbersOf(s), numbersOf(u))
	}
}

func TestSetsKnowNothingOfOneAnother(t *testing.T) {
	a, b := setOf(t, 70), setOf(t, 70)
	a.Put(1)
	b.Or(a)
	a.Put(2)
	b.Put(3)
	a.Drop(1)
	if !slices.Equal(numbersOf(a), []int{2}) || !slices.Equal(numbersOf(b), []int{1, 3}) {
		t.Error(numbersOf(a), numbersOf(b))
	}
}
