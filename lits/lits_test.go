package lits

import (
	"math"
	"testing"
)

func TestWith(t *testing.T) {
	s := Set{}.With(1).With(-8)
	if s == (Set{}) || s.With(1) != s || s.With(-8) != s {
		t.Errorf("a literal that is there already changes %v", s)
	}
	if s.With(-1) == s || s.With(8) == s {
		t.Errorf("the other literal of a variable does not change %v", s)
	}
	if s != (Set{}).With(-8).With(1) {
		t.Errorf("the order matters")
	}
	for _, none := range []int{0, 9, -9, 64, -64, math.MaxInt, math.MinInt} {
		if s.With(none) != s {
			t.Errorf("With(%d) changes %v", none, s)
		}
	}
}

func TestHasVar(t *testing.T) {
	for v := 1; v <= 8; v++ {
		for w := -1; w <= 9; w++ {
			if (Set{}).With(v).HasVar(w) != (v == w) || (Set{}).With(-v).HasVar(w) != (v == w) {
				t.Errorf("HasVar(%d) of the set of %d or of %d", w, v, -v)
			}
		}
	}
	for _, none := range []int{0, -1, 9, 64, math.MaxInt, math.MinInt} {
		if (Set{Pos: -1, Neg: -1}).HasVar(none) {
			t.Errorf("HasVar(%d)", none)
		}
	}
}
