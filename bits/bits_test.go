package bits

import (
	"math"
	"slices"
	"testing"
)

const size = 1024

// none are numbers that no set has.
func none() []int {
	return []int{-1, -2, -63, -64, -65, -1023, -1024, 1024, 1025, 1087, 1088, 2047, 1 << 16, 1 << 32, 1<<32 + 5, math.MaxInt, math.MinInt, math.MinInt + 5}
}

// upTo are so many numbers, from 0 on.
func upTo(many int) (l []int) {
	for n := range many {
		l = append(l, n)
	}
	return l
}

// lists are some of numbers that may be, and may not be, in a set, in no order.
func lists() [][]int {
	l := [][]int{nil, {}, {0}, {1023}, {63, 64}, {64, 63, 64}, {5, 1, 900, 64, 1, 5}, upTo(64), upTo(65), upTo(size), none(), append(none(), 7, 1000)}
	seed := uint32(1)
	for many := 1; many < 2000; many = many*2 + 1 {
		var some []int
		for range many {
			seed = seed*1664525 + 1013904223
			some = append(some, int(seed>>16)%1300-100)
		}
		l = append(l, some)
	}
	return l
}

// plain is a set of numbers, told from a list.
func plain(l ...int) map[int]bool {
	has := map[int]bool{}
	for _, n := range l {
		if 0 <= n && n <= 1023 {
			has[n] = true
		}
	}
	return has
}

// told fails unless a set has just those numbers, whatever it is asked.
func told(t *testing.T, s Set, has map[int]bool) {
	t.Helper()
	var l []int
	for n := range size {
		if has[n] {
			l = append(l, n)
		}
		if s.Has(n) != has[n] || (s[n/64]>>(n%64)&1 == 1) != has[n] {
			t.Fatalf("%d: %v, not %v", n, s.Has(n), has[n])
		}
	}
	for _, n := range none() {
		if s.Has(n) {
			t.Fatalf("%d is in it", n)
		}
	}
	first := -1
	if len(l) > 0 {
		first = l[0]
	}
	if !slices.Equal(s.List(), l) || s.Many() != len(l) || s.First() != first {
		t.Fatalf("%v, %d, %d, not of %v", s.List(), s.Many(), s.First(), l)
	}
}

func TestExample(t *testing.T) {
	s := Of(1, 64, 1024)
	if !slices.Equal(s.List(), []int{1, 64}) || s.First() != 1 || s.Many() != 2 {
		t.Error(s.List(), s.First(), s.Many())
	}
	if l := s.Without(1).List(); !slices.Equal(l, []int{64}) {
		t.Error(l)
	}
}

// P15.1

func TestAnEmptySet(t *testing.T) {
	for _, s := range []Set{{}, Of(), Of([]int{}...), Of(none()...), Of(3).Without(3), Set{}.Or(Set{}), Of(3).And(Of(4)), Of(3).Less(Of(3))} {
		told(t, s, nil)
	}
}

func TestEachNumberAlone(t *testing.T) {
	for n := range size {
		var s Set
		s[n/64] = 1 << (n % 64)
		if Of(n) != s || Of(n, n) != s || (Set{}).With(n) != s {
			t.Fatalf("%d: %v", n, Of(n))
		}
		told(t, s, plain(n))
		told(t, Of(upTo(size)...).Without(n), plain(slices.Delete(upTo(size), n, n+1)...))
	}
}

func TestAllNumbers(t *testing.T) {
	var s Set
	for at := range s {
		s[at] = math.MaxUint64
	}
	told(t, s, plain(upTo(size)...))
	if Of(upTo(5000)...) != s {
		t.Error(Of(upTo(5000)...))
	}
}

func TestWhatIsNoNumberOfASetChangesNothing(t *testing.T) {
	for _, l := range lists() {
		s := Of(l...)
		if s.With(none()...) != s || s.Without(none()...) != s || s.With() != s || s.Without() != s {
			t.Error(l)
		}
		for _, n := range none() {
			if s.With(n) != s || s.Without(n) != s {
				t.Error(n, l)
			}
		}
	}
}

func TestSetsOfLists(t *testing.T) {
	for _, l := range lists() {
		told(t, Of(l...), plain(l...))
		for _, m := range lists() {
			s, u := Of(l...), Of(m...)
			with, without, or, and, less := plain(l...), plain(l...), plain(append(slices.Clone(l), m...)...), plain(), plain()
			for n := range plain(m...) {
				with[n] = true
				delete(without, n)
			}
			for n := range plain(l...) {
				if slices.Contains(m, n) {
					and[n] = true
				} else {
					less[n] = true
				}
			}
			told(t, s.With(m...), with)
			told(t, s.Without(m...), without)
			told(t, s.Or(u), or)
			told(t, s.And(u), and)
			told(t, s.Less(u), less)
		}
	}
}

// P15.2

func TestSetsAreOneJustIfTheirNumbersAre(t *testing.T) {
	for _, l := range lists() {
		for _, m := range lists() {
			s, u := Of(l...), Of(m...)
			if (s == u) != slices.Equal(s.List(), u.List()) {
				t.Errorf("%v, %v", l, m)
			}
		}
		turned := slices.Clone(l)
		slices.Reverse(turned)
		if s := Of(l...); Of(turned...) != s || Of(s.List()...) != s || Of(append(turned, l...)...) != s {
			t.Error(l)
		}
	}
}

func TestOrAndLessHangTogether(t *testing.T) {
	all := Of(upTo(size)...)
	for _, l := range lists() {
		for _, m := range lists() {
			for _, k := range lists() {
				a, b, c := Of(l...), Of(m...), Of(k...)
				switch {
				case a.Or(b) != b.Or(a), a.And(b) != b.And(a), a.Or(b).Or(c) != a.Or(b.Or(c)), a.And(b).And(c) != a.And(b.And(c)):
					t.Fatal("order, nesting", l, m, k)
				case a.And(b.Or(c)) != a.And(b).Or(a.And(c)), a.Or(b.And(c)) != a.Or(b).And(a.Or(c)):
					t.Fatal("through", l, m, k)
				case a.Less(b) != a.And(all.Less(b)), a.Less(b).And(b) != Set{}, a.Less(b).Or(a.And(b)) != a:
					t.Fatal("less", l, m, k)
				}
			}
		}
	}
}

// R3, R4

func TestNothingIsChangedOrKept(t *testing.T) {
	for _, l := range lists() {
		was := slices.Clone(l)
		s := Of(l...)
		u := s
		others := []Set{s.With(l...), s.Without(l...), s.With(1, 2, 900), s.Without(1, 2, 900), s.Or(Of(8)), s.And(Of(8)), s.Less(Of(8))}
		if s != u || !slices.Equal(l, was) {
			t.Fatalf("%v was %v", l, was)
		}
		for i := range l {
			l[i] = 77
		}
		told := s.List()
		for i := range told {
			told[i] = -5
		}
		if s != u || Of(was...) != s || s.With(was...) != others[0] || s.Without(was...) != others[1] || !slices.Equal(s.List(), Of(was...).List()) {
			t.Fatal(was)
		}
	}
}

func TestALongList(t *testing.T) {
	l := make([]int, 1<<20)
	for i := range l {
		l[i] = i % 3000
	}
	if s := Of(l...); s.Many() != size || s.Without(l...) != (Set{}) || Of(4).With(l...) != s {
		t.Error(s)
	}
}
