package lits

import (
	"math"
	"slices"
	"testing"
)

func TestWith(t *testing.T) {
	s := Set{}.With(1).With(-8)
	if s == (Set{}) || s.With(1) != s || s.With(-8) != s {
		t.Errorf("a literal that is there already changes %v", s)
	}
	if s.With(-1) == s || s.With(8) == s {
		t.Errorf("the other literal of a variable does not change %v", s)
	}
	if s != (Set{}).With(-8).With(1) {
		t.Errorf("the order matters")
	}
	for _, none := range []int{0, 9, -9, 64, -64, math.MaxInt, math.MinInt} {
		if s.With(none) != s {
			t.Errorf("With(%d) changes %v", none, s)
		}
	}
}

func TestHasVar(t *testing.T) {
	for v := 1; v <= 8; v++ {
		for w := -1; w <= 9; w++ {
			if (Set{}).With(v).HasVar(w) != (v == w) || (Set{}).With(-v).HasVar(w) != (v == w) {
				t.Errorf("HasVar(%d) of the set of %d or of %d", w, v, -v)
			}
		}
	}
	for _, none := range []int{0, -1, 9, 64, math.MaxInt, math.MinInt} {
		if (Set{Pos: -1, Neg: -1}).HasVar(none) {
			t.Errorf("HasVar(%d)", none)
		}
	}
}

// all is every literal, none what is no literal.
var all = []int{-8, -7, -6, -5, -4, -3, -2, -1, 1, 2, 3, 4, 5, 6, 7, 8}
var none = []int{0, 9, -9, 64, -64, math.MaxInt, math.MinInt}

func TestHas(t *testing.T) {
	for _, l := range all {
		for _, m := range all {
			if (Set{}).With(l).Has(m) != (l == m) {
				t.Errorf("Has(%d) of the set of %d", m, l)
			}
		}
	}
	for _, n := range none {
		if (Set{Pos: -1, Neg: -1}).Has(n) {
			t.Errorf("Has(%d)", n)
		}
	}
}

func TestWithoutVar(t *testing.T) {
	s := Set{}.With(1).With(-1).With(-3).With(8)
	for v, want := range map[int]Set{
		1: Set{}.With(-3).With(8),
		2: s,
		3: Set{}.With(1).With(-1).With(8),
		8: Set{}.With(1).With(-1).With(-3),
	} {
		if s.WithoutVar(v) != want {
			t.Errorf("WithoutVar(%d) of %v = %v, want %v", v, s, s.WithoutVar(v), want)
		}
	}
	for _, n := range append([]int{-1, -3}, none...) {
		if s.WithoutVar(n) != s {
			t.Errorf("WithoutVar(%d) changes %v", n, s)
		}
	}
}

func TestTwoSets(t *testing.T) {
	for _, l := range all {
		for _, m := range all {
			first, second := Set{}.With(l), Set{}.With(m)
			both := first.Union(second)
			if both != (Set{}).With(l).With(m) {
				t.Errorf("Union of %d and %d = %v", l, m, both)
			}
			if first.Meets(second) != (l == m) || both.Meets(second) != true {
				t.Errorf("Meets of %d and %d", l, m)
			}
			if both.Clashes() != (l == -m) {
				t.Errorf("Clashes of %d and %d", l, m)
			}
		}
		if (Set{}).With(l).Empty() || (Set{}).Meets(Set{}.With(l)) {
			t.Errorf("Empty or Meets of %d", l)
		}
	}
	if !(Set{}).Empty() || (Set{}).Clashes() || (Set{}).Meets(Set{}) {
		t.Errorf("the set without literals")
	}
}

func TestWithout(t *testing.T) {
	for _, l := range all {
		for _, m := range all {
			both := Set{}.With(l).With(m)
			want := Set{}.With(l)
			if l == m {
				want = Set{}
			}
			if got := both.Without(Set{}.With(m)); got != want {
				t.Errorf("%d and %d without %d = %v, want %v", l, m, m, got, want)
			}
			if got := (Set{}).With(l).Without(Set{}.With(m)); got != want {
				t.Errorf("%d without %d = %v, want %v", l, m, got, want)
			}
		}
	}
}

func TestTurned(t *testing.T) {
	for _, l := range all {
		for _, m := range all {
			if got := (Set{}).With(l).With(m).Turned(); got != (Set{}).With(-l).With(-m) {
				t.Errorf("%d and %d turned are %v", l, m, got)
			}
		}
	}
}

func TestList(t *testing.T) {
	for _, want := range [][]int{nil, {1}, {-8}, {1, -1}, {-2, 3, 8, -8}, {1, 2, 3, 4, 5, 6, 7, 8}, {-1, 2, -3, 4, -5, 6, -7, 8}} {
		s := Set{}
		for i := len(want) - 1; i >= 0; i-- {
			s = s.With(want[i])
		}
		if got := s.List(); !slices.Equal(got, want) {
			t.Errorf("List of %v = %v, want %v", s, got, want)
		}
	}
	first := Set{}.With(1).List()
	first[0] = 7
	if second := (Set{}).With(1).List(); second[0] != 1 {
		t.Errorf("what is written into a list comes out again")
	}
}

func TestVarOf(t *testing.T) {
	for _, l := range all {
		if v := VarOf(l); v != l && v != -l || v < 1 {
			t.Errorf("VarOf(%d) = %d", l, v)
		}
	}
}
