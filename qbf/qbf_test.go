package qbf

import (
	"reflect"
	"strings"
	"testing"

	"duel/api"
	"duel/lits"
)

func set(literals ...int) lits.Set {
	s := lits.Set{}
	for _, l := range literals {
		s = s.With(l)
	}
	return s
}

func TestClauses(t *testing.T) {
	for _, c := range []struct {
		text    string
		clauses []lits.Set
	}{
		{"", nil},
		{"a 1\n", nil},
		{"c\n", []lits.Set{set()}},
		{"c 1 1 -2 1 -2\n", []lits.Set{set(1, -2)}},
		{"c 1 -1\n", []lits.Set{set(1, -1)}},
		{"c 3 -1 2\nc 8\nc\nc 2 3 -1\n", []lits.Set{set(-1, 2, 3), set(8), set(), set(-1, 2, 3)}},
		{"a 2\ne 1\nc -1 2\nc -2 1\n", []lits.Set{set(-1, 2), set(1, -2)}},
		{strings.Repeat("c -5\n", 24), twentyFour()},
	} {
		f, errno, line := Load(c.text)
		if errno != api.OK || line != 0 || !reflect.DeepEqual(f.Clauses, c.clauses) {
			t.Errorf("Load(%q) = %v, %d, %d, want clauses %v", c.text, f, errno, line, c.clauses)
		}
	}
}

func twentyFour() []lits.Set {
	var all []lits.Set
	for len(all) < 24 {
		all = append(all, set(-5))
	}
	return all
}

func TestVars(t *testing.T) {
	for _, c := range []struct {
		text string
		vars []Var
	}{
		{"", nil},
		{"a 3\ne 1\ne 2\nc 4 1\n", []Var{{4, false}, {3, true}, {1, false}, {2, false}}},
		{"e 2 1\nc 5 -3\n", []Var{{3, false}, {5, false}, {2, false}, {1, false}}},
		{"a 8 1\nc 8 -1 -7\nc 6 7 -6\n", []Var{{6, false}, {7, false}, {8, true}, {1, true}}},
	} {
		f, errno, line := Load(c.text)
		if errno != api.OK || line != 0 || !reflect.DeepEqual(f.Vars, c.vars) {
			t.Errorf("Load(%q) = %v, %d, %d, want variables %v", c.text, f, errno, line, c.vars)
		}
	}
}

func TestErrorsTellNothingElse(t *testing.T) {
	for _, text := range []string{"e 1\nc 1\nx\n", "c 1\nc 2", strings.Repeat("c 1\n", 25), strings.Repeat("c 1\n", 501)} {
		f, errno, _ := Load(text)
		if errno == api.OK || f.Vars != nil || f.Clauses != nil {
			t.Errorf("Load(%q) = %v, %d", text, f, errno)
		}
	}
}

func TestFind(t *testing.T) {
	f, _, _ := Load("a 3 1\ne 2\nc 4 -1\n")
	for n := -1; n <= 9; n++ {
		want := n >= 1 && n <= 4
		v, ok := f.Find(n)
		if ok != want || ok && v != (Var{n, n%2 == 1}) || !ok && v != (Var{}) {
			t.Errorf("Find(%d) = %v, %v", n, v, ok)
		}
	}
}

func TestSatisfied(t *testing.T) {
	for _, c := range []struct {
		text     string
		literals lits.Set
		want     bool
	}{
		{"", set(), true},
		{"a 1\n", set(), true},
		{"c\n", set(), false},
		{"c\n", set(1, -1), false},
		{"c 1 -1\n", set(), true},
		{"c 1 -1\nc 2\n", set(), false},
		{"c 1 -1\nc 2\n", set(2), true},
		{"c 1 2\nc -1 -2\n", set(1, -2), true},
		{"c 1 2\nc -1 -2\n", set(1, 2), false},
		{"c 1 2\nc -1 -2\n", set(1), false},
		{"c 1 2\nc -1 2\n", set(2), true},
		{"c 1\nc 2\nc -3\n", set(1, 2), false},
		{"c 1\nc 2\nc -3\n", set(1, 2, -3), true},
	} {
		f, _, _ := Load(c.text)
		if got := f.Satisfied(c.literals); got != c.want {
			t.Errorf("of %q: Satisfied(%v) = %t", c.text, c.literals, got)
		}
	}
}
