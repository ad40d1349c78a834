package search

import (
	"reflect"
	"strings"
	"testing"

	"duel/api"
	"duel/lits"
	"duel/proofs"
	"duel/qbf"
)

// load reads a formula that is written as the document's examples are: lines are separated by / and each is ended.
func load(t *testing.T, text string) qbf.Formula {
	t.Helper()
	f, errno, line := qbf.Load(lines(text))
	if errno != api.OK {
		t.Fatalf("Load(%q): %d, line %d", text, errno, line)
	}
	return f
}

func lines(s string) string {
	return strings.ReplaceAll(s, " / ", "\n") + "\n"
}

func set(literals ...int) lits.Set {
	s := lits.Set{}
	for _, l := range literals {
		s = s.With(l)
	}
	return s
}

func TestProofsAreShort(t *testing.T) {
	for _, c := range []struct {
		formula string
		nodes   int
		proof   string
	}{
		{"c", 1, "proof false / a 1"},
		{"c 1 -1", 1, "proof true / c"},
		{"a 1 / c 1", 1, "proof false / a 1 / d 1"},
		{"e 1 / c 1", 1, "proof true / c 1 / d 1"},
		{"c 1 / c 2 / c -1 2 / c -1", 1, "proof false / a 1 / a 4 / r 1 2 1"},
		{"a 1 / e 2 / c 1 2 / c -1 -2", 3, "proof true / c 1 -2 / d 1 / c -1 2 / d 3 / r 2 4 1"},
		{"c 1 2 / c 1 -2 / c -1 2 / c -1 -2", 3, "proof false / a 1 / a 2 / a 3 / a 4 / r 3 4 2 / r 1 2 2 / r 6 5 1"},
		{"a 1 / a 2 / c 1 -2 / c -1 2", 1, "proof false / a 1 / d 1"},
	} {
		f := load(t, c.formula)
		got := Solve(f, 0, 0)
		if text := got.Proof.Text(); got.Nodes != c.nodes || text != lines(c.proof) {
			t.Errorf("of %q: %d nodes and %q, want %d and %q", c.formula, got.Nodes, text, c.nodes, c.proof)
		}
	}
}

func TestNodesAreCounted(t *testing.T) {
	for _, c := range []struct {
		formula string
		nodes   int
	}{
		// The unit -1 is looked at first, and the other side not at all.
		{"e 1 / a 2 / e 3 / c -1 / c 2 3 / c -2 -3", 4},
		{"e 1 / a 2 / e 3 / c 1 / c 2 3 / c -2 -3", 4},
		// The values of 1 and 2 do not matter; the clauses of 4 end both of its sides.
		{"a 1 2 / e 3 / a 4 / e 5 / c 4 5 / c 4 -5", 6},
		// On each side of 2 the other has to be looked at; 8 is the last of eight variables.
		{"a 1 3 4 5 6 7 2 / e 8 / c 1 -1 / c 2 8 / c -2 -8", 9},
	} {
		f := load(t, c.formula)
		if got := Solve(f, 0, 0); got.Nodes != c.nodes {
			t.Errorf("of %q: %d nodes, want %d", c.formula, got.Nodes, c.nodes)
		}
	}
}

func TestUnknownHasNoSteps(t *testing.T) {
	f := load(t, "a 1 / e 2 / c 1 2 / c -1 -2")
	for budget := 1; budget < 3; budget++ {
		got := Solve(f, budget, 4)
		if got.Kind != api.Unknown || got.Nodes != budget || got.Proof.Kind != 0 || got.Proof.Steps != nil {
			t.Errorf("Solve(%d) = %v", budget, got)
		}
	}
	// The cube of the first side was kept when the budget ended.
	if got := Solve(f, 2, 4); got.Lemmas != 1 {
		t.Errorf("Solve(2) = %v, want 1 lemma", got)
	}
}

func TestFindUnits(t *testing.T) {
	for _, c := range []struct {
		formula string
		path    lits.Set
		want    units
	}{
		{"c 1 2", set(), units{}},
		{"c 1 2", set(-1), units{values: set(-1, 2), trail: []unit{{2, 1}}}},
		{"c 1 2", set(1), units{values: set(1)}},
		{"c 1 2", set(-1, -2), units{values: set(-1, -2), conflict: 1}},
		{"c -2 3 / c 1 / c -1 2", set(), units{values: set(1, 2, 3), trail: []unit{{1, 2}, {2, 3}, {3, 1}}}},
		{"c -1 2 / c 3 / c 1 / c -2", set(), units{values: set(3, 1, 2), trail: []unit{{3, 2}, {1, 3}, {2, 1}}, conflict: 4}},
		{"c 1 / c 2 / c -1", set(), units{values: set(1), trail: []unit{{1, 1}}, conflict: 3}},
		{"c 2 -2 1 / c -1 1", set(), units{}},
		// A universal literal is no unit; if none but such are left, the clause is lost.
		{"a 1 / c 1 2", set(), units{}},
		{"a 1 / c 1 2", set(-2), units{values: set(-2), conflict: 1}},
		{"a 1 / c 1 -1", set(), units{}},
		{"a 1 / e 3 / c 2 1 / c 3 -1", set(2, 1), units{values: set(2, 1, 3), trail: []unit{{3, 2}}}},
	} {
		f := load(t, c.formula)
		s := begin(f, 0, 0)
		if got := s.findUnits(c.path); !reflect.DeepEqual(got, c.want) {
			t.Errorf("of %q on %v: %v, want %v", c.formula, c.path.List(), got, c.want)
		}
	}
}

func TestUniversalsAreNoUnits(t *testing.T) {
	f := load(t, "a 1 / c 1 / c 1 2")
	s := begin(f, 0, 0)
	if got := s.findUnit(s.clauses(), set(-2)); got.step != 0 {
		t.Errorf("%v is a unit", got)
	}
	if got := s.findUnit(s.clauses(), set(-1)); got != (unit{2, 2}) {
		t.Errorf("the unit is %v, not 2", got)
	}
}

func TestKeptClausesAreUnits(t *testing.T) {
	f := load(t, "e 1 2 3 / c 1 2 3")
	s := begin(f, 0, 8)
	step := s.refuting.Add(proofs.Step{Rule: proofs.Axiom, First: 1, Lits: set(-1, 2)})
	s.keep(fact{kind: api.True, step: step})
	if u := s.findUnits(set(1)); u.trail != nil {
		t.Errorf("a cube is a unit: %v", u)
	}
	s.keep(fact{kind: api.False, step: step})
	if u := s.findUnits(set(1)); !reflect.DeepEqual(u.trail, []unit{{2, step}}) {
		t.Errorf("the units are %v", u)
	}
	if u := s.findUnits(set(1, -2)); u.conflict != step {
		t.Errorf("the units are %v", u)
	}
}

func TestExplain(t *testing.T) {
	// On the path 1 the conflict rests on two units of three, and has a universal literal ahead of one of them.
	f := load(t, "e 1 / a 2 / e 3 4 5 / c -1 3 / c -1 4 / c -3 5 / c 2 -5 -1")
	s := begin(f, 0, 8)
	u := s.findUnits(set(1))
	found := s.explain(u)
	if s.lits(found) != set(-1) || found.kind != api.False || len(s.lemmas.kept) != 1 {
		t.Errorf("%v is explained by %v, and %v is kept", u, s.lits(found).List(), s.lemmas.kept)
	}
	for _, step := range s.refuting.Steps {
		if step.Rule == proofs.Resolvent && step.Var == 4 {
			t.Errorf("the unit 4 does not matter")
		}
	}
}

func TestClausesOfTheTextAreNotKept(t *testing.T) {
	f := load(t, "e 1 2 / a 3 / c 1 2 3 / c -1 -2")
	s := begin(f, 0, 8)
	for _, path := range []lits.Set{set(-1, -2), set(1, 2)} {
		u := s.findUnits(path)
		found := s.explain(u)
		if s.lits(found) != path.Turned() || len(s.lemmas.kept) != 0 {
			t.Errorf("%v is explained by %v, and %v is kept", u, s.lits(found).List(), s.lemmas.kept)
		}
	}
}

func TestFindCube(t *testing.T) {
	f := load(t, "a 1 2 / e 3 4 / c 1 3 / c 2 3 / c 4 -3")
	s := begin(f, 0, 8)
	if found := s.findCube(set(1), set(1)); found.kind != api.Unknown {
		t.Errorf("a cube is found: %v", found)
	}
	// Without the universal literals, though those of the units could go for them.
	found := s.findCube(set(1, 2), set(1, 2, 3, 4))
	if s.lits(found) != set() || s.affirming.Steps[0].Lits != set(3, 4) || len(s.lemmas.kept) != 0 {
		t.Errorf("the cube is %v of %v", s.lits(found).List(), s.affirming.Steps)
	}
	found = s.findCube(set(1, 2), set(1, 2, -3))
	if s.lits(found) != set(1, 2) || len(s.lemmas.kept) != 1 {
		t.Errorf("the cube is %v", s.lits(found).List())
	}
	if again := s.findCube(set(1, 2), set(1, 2)); again != found {
		t.Errorf("the cube that is kept is not found")
	}
	if other := s.findCube(set(1, -2), set(1, -2)); other.kind != api.Unknown {
		t.Errorf("a cube that is not true is found")
	}
}

func TestStore(t *testing.T) {
	for room := 0; room <= 4; room++ {
		s := store{room: room}
		for i := 1; i <= 6; i++ {
			s.keep(fact{kind: api.True, step: i})
			if len(s.kept) != min(room, i) || s.most != len(s.kept) {
				t.Errorf("room %d: %d are kept of %d, most %d", room, len(s.kept), i, s.most)
			}
		}
		// The youngest stay.
		for i, f := range s.kept {
			if f.step != 6-room+1+i {
				t.Errorf("room %d: %v are kept", room, s.kept)
			}
		}
	}
}

func TestLemmasSpareNodes(t *testing.T) {
	for _, c := range []struct {
		formula string
		kind    int
	}{
		// Cubes, clauses, and both.
		{"a 2 6 7 / e 8 3 / a 4 / c 6 -3 2 / c 3 6 / c -3 8", api.False},
		{"e 5 3 2 7 / c -5 -3 -6 / c 7 -5 / c -2 3 / c 7 5 / c 5 -2 4 -7 -6 / c -3 -2 / c 6 / c 2 -3 5 / c 3 -6 -7 2 / c -4 -5 3", api.False},
		{"a 5 / e 7 8 / a 2 / e 1 6 / c 3 / c 5 -6 / c -1 / c 2 -8 1", api.True},
	} {
		f := load(t, c.formula)
		without := Solve(f, 0, 0)
		with := Solve(f, 0, 64)
		if without.Kind != c.kind || with.Kind != c.kind || without.Lemmas != 0 || with.Lemmas == 0 || with.Nodes >= without.Nodes {
			t.Errorf("of %q: kind %d, %d nodes, %d lemmas, with room kind %d, %d nodes, %d lemmas", c.formula, without.Kind, without.Nodes, without.Lemmas, with.Kind, with.Nodes, with.Lemmas)
		}
	}
}
