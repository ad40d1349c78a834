package duel_test

import (
	"fmt"
	"math"
	"math/rand"
	"strings"
	"testing"

	"duel/api"
	"duel/duel"
)

// solve tests what P6 says of every answer of Solve, P1 and P2 too: asking again answers the same.
func (g *game) solve(t *testing.T, budget, lemmas int) duel.Verdict {
	t.Helper()
	f := wantLoad(t, g.text, api.OK, 0)
	v, errno := f.Solve(budget, lemmas)
	if again, e := f.Solve(budget, lemmas); again != v || e != errno {
		t.Errorf("of %q: Solve(%d, %d) = %+v, then %+v", g.text, budget, lemmas, v, again)
	}
	if errno != api.OK || v.Lemmas < 0 || v.Lemmas > lemmas || v.Nodes < 1 || v.Nodes >= 2<<len(g.prefix) {
		t.Errorf("of %q: Solve(%d, %d) = %+v, %d", g.text, budget, lemmas, v, errno)
	}
	switch v.Kind {
	case api.Unknown:
		if v.Proof != "" || v.Nodes != budget {
			t.Errorf("of %q: Solve(%d, %d) = %+v", g.text, budget, lemmas, v)
		}
	case api.False, api.True:
		if kind, line := g.check(v.Proof); kind != v.Kind || len(v.Proof) > 1<<18 {
			t.Errorf("of %q: Solve(%d, %d) = %+v, and its proof is %d, line %d", g.text, budget, lemmas, v, kind, line)
		}
		wantCheck(t, g.text, v.Proof, v.Kind, api.OK, 0)
	default:
		t.Errorf("of %q: Solve(%d, %d) = %+v", g.text, budget, lemmas, v)
	}
	return v
}

// kind plays the game to tell what the formula is.
func (g *game) kind() int {
	if g.truth(map[int]bool{}, 0) {
		return api.True
	}
	return api.False
}

// solved is solve without a budget, which is never Unknown; all duels on its proof are played.
func (g *game) solved(t *testing.T, lemmas int) duel.Verdict {
	t.Helper()
	v := g.solve(t, 0, lemmas)
	if want := g.kind(); v.Kind != want {
		t.Errorf("of %q: Solve(0, %d) = %+v, want kind %d", g.text, lemmas, v, want)
	} else if !t.Failed() {
		g.wantWon(t, v.Proof, v.Kind)
	}
	return v
}

// wantBudget tests Solve with a budget, when v is what it answers without.
func (g *game) wantBudget(t *testing.T, v duel.Verdict, budget, lemmas int) {
	t.Helper()
	w := g.solve(t, budget, lemmas)
	if budget >= v.Nodes && w != v {
		t.Errorf("of %q: Solve(%d, %d) = %+v, but %+v without a budget", g.text, budget, lemmas, w, v)
	}
	// The search is the same up to where it ends, so no more was kept.
	if budget < v.Nodes && (w.Kind != api.Unknown || w.Lemmas > v.Lemmas) {
		t.Errorf("of %q: Solve(%d, %d) = %+v, but %d nodes are needed, and %d lemmas kept", g.text, budget, lemmas, w, v.Nodes, v.Lemmas)
	}
}

// wantRoom tests that room that is not used does not matter, when v is what Solve answers.
func (g *game) wantRoom(t *testing.T, v duel.Verdict, budget, lemmas int) {
	t.Helper()
	if v.Lemmas >= lemmas {
		return
	}
	if w := g.solve(t, budget, v.Lemmas); w != v {
		t.Errorf("of %q: Solve(%d, %d) = %+v, but Solve(%d, %d) = %+v", g.text, budget, lemmas, v, budget, v.Lemmas, w)
	}
}

func TestSolveExamples(t *testing.T) {
	for _, c := range []struct {
		text string
		kind int
	}{
		{"c", api.False}, {"a 1 / c 1", api.False}, {"c 1 -1", api.True}, {innerTrue, api.True}, {outerFalse, api.False}, {fourFalse, api.False}, {"a 1 / a 2 / c 1 -2 / c -1 2", api.False}, {threeTrue, api.True}, {threeFalse, api.False},
		{parityTrue, api.True}, {pivotsFalse, api.False}, {"a 1", api.True}, {"e 1", api.True}, {"a 1 / c 1 -1", api.True}, {"a 8 / e 7 / c -7 8 / c 7 -8", api.True}, {"e 7 / a 8 / c -7 8 / c 7 -8", api.False}, {"a 8 / c -7 8 / c 7 -8", api.False},
		{"c 1 -1 / c", api.False}, {"a 1 / c 1 -1 / c 2 / c -2 1", api.False}, {"a 1 2 3 4 5 6 7 8", api.True}, {"a 1 2 3 4 5 6 7 8 / c 1 2 3 4 5 6 7 8", api.False}, {"e 1 2 3 4 5 6 7 8 / c -1 / c -2 / c -3 / c -4 / c -5 / c -6 / c -7 / c -8", api.True},
	} {
		g := newGame(t, lines(c.text))
		for _, lemmas := range []int{0, 1, 2, 5, 64} {
			if v := g.solved(t, lemmas); v.Kind != c.kind {
				t.Errorf("of %q: %+v, want kind %d", c.text, v, c.kind)
			}
		}
	}
	for _, text := range []string{"", "e 1\n", "a 1\n"} {
		if v := newGame(t, text).solved(t, 64); v.Kind != api.True {
			t.Errorf("of %q: %+v", text, v)
		}
	}
	// Without variables there is one node.
	for _, text := range []string{"", "c\n"} {
		if v := newGame(t, text).solved(t, 64); v.Nodes != 1 {
			t.Errorf("of %q: %+v", text, v)
		}
	}
}

func TestSolveArguments(t *testing.T) {
	if api.MaxBudget != 1<<20 || api.MaxLemmas != 64 {
		t.Errorf("bounds %d, %d", api.MaxBudget, api.MaxLemmas)
	}
	for _, text := range []string{"", "c\n", lines(innerTrue), lines(threeFalse)} {
		f := wantLoad(t, text, api.OK, 0)
		for _, budget := range []int{math.MinInt, -1 << 20, -1, 0, 1, 1 << 20, 1<<20 + 1, 1 << 21, 1 << 32, 1<<32 + 1, math.MaxInt} {
			for _, lemmas := range []int{math.MinInt, -64, -1, 0, 1, 64, 65, 128, 1 << 32, 1<<32 + 1, math.MaxInt} {
				v, errno := f.Solve(budget, lemmas)
				if 0 <= budget && budget <= 1<<20 && 0 <= lemmas && lemmas <= 64 {
					if errno != api.OK || v == (duel.Verdict{}) {
						t.Errorf("of %q: Solve(%d, %d) = %+v, %d", text, budget, lemmas, v, errno)
					}
				} else if errno != api.ErrArg || v != (duel.Verdict{}) {
					t.Errorf("of %q: Solve(%d, %d) = %+v, %d, want ErrArg and nothing else", text, budget, lemmas, v, errno)
				}
			}
		}
	}
}

// deepGames take many nodes, in which much can be kept.
func deepGames(t *testing.T) []*game {
	var list []*game
	for _, text := range []string{
		parityTrue, threeTrue, threeFalse,
		"a 1 2 3 4 / e 5 6 7 / c -1 -2 -5 / c 1 2 -5 / c 1 -2 5 / c -1 2 5 / c -5 -3 -6 / c 5 3 -6 / c 5 -3 6 / c -5 3 6 / c -6 -4 -7 / c 6 4 -7 / c 6 -4 7 / c -6 4 7",
		"a 1 / e 5 / a 2 / e 6 / a 3 / e 7 / a 4 / e 8 / c 1 -5 / c -1 5 / c 2 -6 / c -2 6 / c 3 -7 / c -3 7 / c 4 -8 / c -4 8",
		"a 1 / e 5 / a 2 / e 6 / a 3 / e 7 8 / c 1 5 6 7 8 / c -1 -5 6 -7 8 / c 2 -6 3 7 / c -2 6 -3 -7 / c 1 -3 8 -5 / c -1 3 -8 5 / c 2 3 -7 -8 / c -2 -3 7 -8",
		"e 1 2 / a 3 / e 4 / a 5 / e 6 7 / a 8 / c 1 3 4 / c -1 -3 4 / c 2 -4 5 6 / c -2 -4 -5 7 / c 4 6 -7 / c -6 -7 5 / c 1 7 6 / c -2 4 -5",
		"e 1 2 3 4 5 6 7 8 / c 1 2 3 / c -1 -2 -3 / c 1 4 5 / c -1 -4 -5 / c 1 6 7 / c -1 -6 -7 / c 2 4 6 / c -2 -4 -6 / c 2 5 7 / c -2 -5 -7 / c 3 4 7 / c -3 -4 -7 / c 3 5 6 / c -3 -5 -6 / c 8 1 2 / c -8 -1 -2",
	} {
		list = append(list, newGame(t, lines(text)))
	}
	return list
}

func TestSolveBudgets(t *testing.T) {
	longest := 0
	for _, g := range deepGames(t) {
		for _, lemmas := range []int{0, 1, 2, 7, 64} {
			v := g.solved(t, lemmas)
			for budget := 1; budget <= v.Nodes+2; budget++ {
				g.wantBudget(t, v, budget, lemmas)
			}
			g.wantBudget(t, v, 1<<20, lemmas)
			g.wantBudget(t, v, 1<<9, lemmas)
			longest = max(longest, v.Nodes)
		}
	}
	if longest < 10 {
		t.Errorf("no formula takes more than %d nodes: its budgets say little", longest)
	}
}

func TestSolveLemmas(t *testing.T) {
	most, unused := 0, 0
	for _, g := range deepGames(t) {
		for lemmas := 0; lemmas <= 64; lemmas++ {
			v := g.solved(t, lemmas)
			g.wantRoom(t, v, 0, lemmas)
			most = max(most, v.Lemmas)
			if v.Lemmas < lemmas {
				unused++
			}
			for budget := 1; budget < v.Nodes; budget += 1 + budget/3 {
				w := g.solve(t, budget, lemmas)
				g.wantRoom(t, w, budget, lemmas)
			}
		}
	}
	if most < 5 || unused < 100 {
		t.Errorf("%d lemmas are kept at most, and %d times room is not used: that it does not matter says little", most, unused)
	}
}

// TestSolveTwoVariables takes every formula of two variables whose clauses are in one order, with each prefix, and one clause that is always satisfied or none.
func TestSolveTwoVariables(t *testing.T) {
	var clauses []string
	for _, first := range []string{"", " 1", " -1"} {
		for _, second := range []string{"", " 2", " -2"} {
			clauses = append(clauses, "c"+first+second+"\n")
		}
	}
	for _, prefix := range []string{"", "e 1\na 2\n", "e 2\na 1\n", "a 1\ne 2\n", "a 2\ne 1\n", "a 1 2\n", "a 2\n", "e 2 1\n"} {
		for set := 0; set < 1<<len(clauses) && !t.Failed(); set++ {
			text := prefix
			for i, clause := range clauses {
				if set>>i&1 == 1 {
					text += clause
				}
			}
			if set%5 == 0 {
				text += "c 2 1 -2\n"
			}
			newGame(t, text).solved(t, set%3)
		}
	}
}

// large draws formulas of up to 8 variables and 24 clauses.
func (c chance) large() string {
	vars := c.Perm(8)[:1+c.Intn(8)]
	text := ""
	for _, v := range vars {
		if kind := c.Intn(9); kind < 8 {
			text += fmt.Sprintf("%s %d\n", "ae"[kind%2:kind%2+1], v+1)
		}
	}
	longest := 2 + c.Intn(7)
	for i := c.Intn(25); i > 0; i-- {
		text += "c"
		for j := min(1+c.Intn(longest), 1+c.Intn(longest)); j > 0; j-- {
			text += fmt.Sprintf(" %d", (vars[c.Intn(len(vars))]+1)*(1-2*c.Intn(2)))
		}
		text += "\n"
	}
	return text
}

func TestSolveByChance(t *testing.T) {
	c := chance{rand.New(rand.NewSource(2))}
	seen := map[int]int{}
	for i := 0; i < 1500 && !t.Failed(); i++ {
		g := newGame(t, c.large())
		lemmas := []int{0, 1, 2, 3, 5, 9, 20, 64}[c.Intn(8)]
		v := g.solved(t, lemmas)
		g.wantBudget(t, v, v.Nodes, lemmas)
		g.wantBudget(t, v, v.Nodes+1+c.Intn(9), lemmas)
		if v.Nodes > 1 {
			g.wantBudget(t, v, v.Nodes-1, lemmas)
			g.wantBudget(t, v, 1+c.Intn(v.Nodes-1), lemmas)
		}
		g.wantRoom(t, v, 0, lemmas)
		seen[v.Kind]++
	}
	if seen[api.False] < 200 || seen[api.True] < 200 {
		t.Errorf("how often which verdict: %v", seen)
	}
}

func TestSolveHangsOnItsFormulaAlone(t *testing.T) {
	first := wantLoad(t, lines(threeTrue), api.OK, 0)
	second := wantLoad(t, lines(threeFalse), api.OK, 0)
	v, _ := first.Solve(0, 3)
	w, _ := second.Solve(0, 3)
	for i := 0; i < 3; i++ {
		second.Solve(1, 64)
		first.Solve(2, 0)
		first.Check(w.Proof)
		for _, b := range first.Blocks() {
			b[0] = 8
		}
		again, _ := first.Solve(0, 3)
		if other, _ := second.Solve(0, 3); again != v || other != w {
			t.Errorf("Solve = %+v and %+v, then %+v and %+v", v, w, again, other)
		}
	}
	if k, e, l := first.Check(v.Proof); k != api.True || e != api.OK || l != 0 {
		t.Errorf("Check = %d, %d, %d", k, e, l)
	}
	if k, e, _ := second.Check(v.Proof); k != 0 || e != api.ErrProof {
		t.Errorf("Check of another formula = %d, %d", k, e)
	}
}

func TestSolveOfNoFormula(t *testing.T) {
	var none *duel.Formula
	want := duel.Verdict{Kind: api.True, Nodes: 1, Proof: "proof true\nc\n"}
	for _, f := range []*duel.Formula{none, new(duel.Formula), wantLoad(t, "", api.OK, 0)} {
		for _, lemmas := range []int{0, 1, 64} {
			if v, errno := f.Solve(0, lemmas); v != want || errno != api.OK {
				t.Errorf("Solve = %+v, %d, want %+v", v, errno, want)
			}
		}
		if v, errno := f.Solve(-1, 0); v != (duel.Verdict{}) || errno != api.ErrArg {
			t.Errorf("Solve(-1, 0) = %+v, %d", v, errno)
		}
	}
}

// units makes literals true as P7 says, the first clause of the text first, and tells how many it were, and whether a clause is all false then.
func (g *game) units() (int, bool) {
	value := map[int]int{}
	for {
		unit := 0
		for _, clause := range g.clauses {
			open := 0
			last := 0
			for l := range clause {
				if value[l]-value[-l] >= 0 {
					open++
					last = l
				}
			}
			if open == 0 {
				return len(value), true
			}
			_, universal := g.place(last)
			if unit == 0 && open == 1 && !universal && value[last] == 0 {
				unit = last
			}
		}
		if unit == 0 {
			return len(value), false
		}
		value[unit] = 1
	}
}

// wantUnits tests P7, and tells whether it says anything of the formula.
func (g *game) wantUnits(t *testing.T) bool {
	t.Helper()
	count, conflict := g.units()
	if !conflict {
		return false
	}
	for _, budget := range []int{0, 1, 2, 1 << 20} {
		for _, lemmas := range []int{0, 1, 64} {
			v := g.solve(t, budget, lemmas)
			if steps := strings.Count(v.Proof, "\nr "); v.Kind != api.False || v.Nodes != 1 || steps > count {
				t.Errorf("of %q: Solve(%d, %d) = %+v, want False, 1 node, and no more than %d steps r", g.text, budget, lemmas, v, count)
			}
		}
	}
	return true
}

func TestUnits(t *testing.T) {
	for _, c := range []struct {
		text  string
		count int
	}{
		{"c", 0}, {"c 1 / c", 0}, {"c 1 / c -1", 1}, {"c 1 1 1 / c -1 -1", 1}, {"c 1 / c -1 2 / c -2 3 / c -3", 3}, {"c -3 / c -2 3 / c -1 2 / c 1", 3},
		// The first clause that allows it, from the beginning each time.
		{"c 1 2 / c -1 / c -2 1 / c -7 / c 2 7", 2}, {"c 1 / c 2 / c -1", 1}, {"c 1 / c 2 / c 3 / c 4 / c -2 -3 -4 -1", 4}, {"c 5 / c -5 6 / c -6 7 / c -7 8 / c 1 / c -1", 5},
		{"c -1 2 / c -2 3 / c -3 -4 / c 4 / c 1", 4}, {"c 8 / c -8 1 / c -8 2 / c -1 -2 3 / c -1 -2 -3", 4},
		// A conflict that is all false at once is seen ahead of clauses that stand ahead of it.
		{"c 2 / c -2 3 / c -3 4 / c -4 / c -2", 1}, {"c -1 3 / c -3 4 / c 1 / c -4 / c -1", 1},
		// Clauses with universal literals, or both literals of a variable, do not matter here.
		{"a 5 / c 1 / c -1 2 / c -2", 2}, {"a 5 / e 6 / c 6 5 / c 1 / c -6 5 / c -1 2 / c -2 -1", 2}, {"c 1 -1 / c 2 -2 3 / c 3 / c -3 1 -1 / c -3", 1},
		{"e 1 / a 2 / e 3 4 5 / c 1 2 / c -1 3 / c -3 4 / c -4 / c 5 / c -5", 4}, {"a 1 / e 2 3 / c 1 2 / c -1 2 / c 3 / c -3", 1},
		{"c 1 / c 2 / c 3 / c 4 / c 5 / c 6 / c 7 / c 8 / c -1 -2 -3 -4 -5 -6 -7 -8", 8},
	} {
		g := newGame(t, lines(c.text))
		if count, conflict := g.units(); count != c.count || !conflict {
			t.Errorf("of %q: %d units, conflict %t, want %d", c.text, count, conflict, c.count)
		}
		g.wantUnits(t)
	}
	// Clauses that allow no unit: a universal literal is not made true, nor false.
	for _, text := range []string{"a 1 / e 2 / c 1 2 / c -2 1 -1", "a 1 / e 2 / c 1 2 / c -1 -2", "c 1 -1", "c 1 2 / c -1 -2", "a 1 / e 2 / c 2 / c 1 -2 / c -1 -2"} {
		if count, conflict := newGame(t, lines(text)).units(); conflict {
			t.Errorf("of %q: a conflict with %d units", text, count)
		}
	}
}

func TestUnitsByChance(t *testing.T) {
	c := chance{rand.New(rand.NewSource(3))}
	seen := 0
	for i := 0; i < 4000 && !t.Failed(); i++ {
		g := newGame(t, c.chain())
		if g.wantUnits(t) {
			seen++
		}
	}
	if seen < 1000 {
		t.Errorf("units matter %d times", seen)
	}
}

// chain draws formulas with many short clauses, in which units are common.
func (c chance) chain() string {
	text := ""
	for _, v := range c.Perm(8) {
		if kind := c.Intn(12); kind < 6 {
			text += fmt.Sprintf("%s %d\n", "aeeeee"[kind:kind+1], v+1)
		}
	}
	for i := 4 + c.Intn(21); i > 0; i-- {
		text += "c"
		for j := 1 + c.Intn(4); j > 0; j-- {
			text += fmt.Sprintf(" %d", (1+c.Intn(8))*(1-2*c.Intn(2)))
		}
		text += "\n"
	}
	return text
}
