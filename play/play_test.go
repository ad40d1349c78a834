package play

import (
	"reflect"
	"strings"
	"testing"

	"duel/api"
	"duel/lits"
	"duel/proofs"
	"duel/qbf"
)

func set(literals ...int) lits.Set {
	s := lits.Set{}
	for _, l := range literals {
		s = s.With(l)
	}
	return s
}

// open takes texts as the document's examples write them: separated by / and each ended.
func open(t *testing.T, formula, proof string) Game {
	t.Helper()
	f, errno, line := qbf.Load(strings.ReplaceAll(formula, " / ", "\n") + "\n")
	if errno != api.OK {
		t.Fatalf("Load(%q): %d, line %d", formula, errno, line)
	}
	p, errno, line := proofs.Read(f, strings.ReplaceAll(proof, " / ", "\n")+"\n")
	if errno != api.OK {
		t.Fatalf("of %q: Read(%q): %d, line %d", formula, proof, errno, line)
	}
	return Open(f, p)
}

func TestRules(t *testing.T) {
	for _, c := range []struct {
		formula, proof string
		rules          []rule
	}{
		{"c", "proof false / a 1", nil},
		{"a 1 / c 1", "proof false / a 1 / d 1", []rule{{set(), set(-1)}}},
		{"e 2 / a 1 / c 1 2 / c -1 -2", "proof false / a 1 / a 2 / d 1 / d 2 / r 3 4 2", []rule{{set(-2), set(-1)}, {set(2), set(1)}}},
		{"a 1 / e 2 / c 1 2 / c -1 -2", "proof true / c 1 -2 / c -1 2 / d 1 / d 2 / r 3 4 1", []rule{{set(1), set(-2)}, {set(-1), set(2)}}},
		{"e 3 / a 1 / e 2 8 / c 3 8", "proof true / c -1 2 3 8 / d 1 / c 1 3 / r 3 2 1 / d 4", []rule{{set(-1, 3), set(2, 8)}, {set(), set(3)}}},
		{"a 5 / e 6 / a 7 8 / c 5 6 7 -8 / c -6", "proof false / a 1 / d 1 / a 2 / r 2 3 6 / d 4", []rule{{set(-5, -6), set(-7, 8)}, {set(), set(-5)}}},
	} {
		g := open(t, c.formula, c.proof)
		if !reflect.DeepEqual(g.rules, c.rules) {
			t.Errorf("of %q: %q gives %v, want %v", c.formula, c.proof, g.rules, c.rules)
		}
	}
}

func TestWanted(t *testing.T) {
	g := Game{rules: []rule{{set(1, -2), set(3, -4)}, {set(1), set(-3)}, {set(-2), set(4, 5)}, {set(), set(3)}}}
	for _, c := range []struct {
		values   lits.Set
		variable int
		want     bool
	}{
		{set(1, -2), 3, true}, {set(1, -2), 4, false}, {set(1, -2), 5, true}, {set(1, -2), 6, false},
		{set(1, 2), 3, false}, {set(1, 2), 4, false}, {set(1, 2), 5, false},
		{set(-1, -2), 3, true}, {set(-1, -2), 4, true}, {set(-1, 2), 3, true}, {set(), 3, true}, {set(), 4, false},
	} {
		g.values = c.values
		if got := g.wanted(c.variable); got != c.want {
			t.Errorf("with %v variable %d is %t, want %t", c.values, c.variable, got, c.want)
		}
	}
}

func TestWhoPlaysBlocks(t *testing.T) {
	for _, c := range []struct {
		formula, proof string
		winners        []bool
	}{
		{"e 1 / a 2 / e 3 / c", "proof false / a 1", []bool{false, true, false}},
		{"e 1 / a 2 / e 3", "proof true / c", []bool{true, false, true}},
		{"a 2 1 / e 3 4 / c", "proof false / a 1", []bool{true, false}},
		{"a 2 1 / c 3 -3", "proof true / c", []bool{true, false}},
		{"c", "proof false / a 1", nil},
	} {
		g := open(t, c.formula, c.proof)
		var winners []bool
		for _, b := range g.blocks {
			winners = append(winners, b.winners)
		}
		if !reflect.DeepEqual(winners, c.winners) {
			t.Errorf("of %q: %q: %v, want %v", c.formula, c.proof, winners, c.winners)
		}
	}
}

// A game that is copied goes on by itself.
func TestCopiesOfGames(t *testing.T) {
	g := open(t, "a 1 / e 2 / a 3 / e 4 / c 1 2 / c -1 -2", "proof true / c 1 -2 / d 1 / c -1 2 / d 3 / r 2 4 1")
	g.Move(1)
	h := g
	g.Move(0)
	h.Move(1)
	if first, second := g.Values(), h.Values(); first[2] != -1 || second[2] != 1 || g.Turn() != 4 || h.Turn() != 4 {
		t.Errorf("values %v and %v", first, second)
	}
}

func TestNoVariablesAreNobodys(t *testing.T) {
	if wins(qbf.Formula{}, proofs.Proof{Kind: api.True}, nil) {
		t.Errorf("no variables are the winning side's")
	}
}
