package search

import (
	"duel/api"
	"duel/lits"
	"duel/proofs"
)

// findCube tells a cube that is true on the path, if one is kept or the values satisfy the formula.
func (s *search) findCube(path lits.Set, values lits.Set) fact {
	for _, found := range s.lemmas.kept {
		if found.kind == api.True && s.holds(found, path) {
			return found
		}
	}
	if !s.formula.Satisfied(values) {
		return fact{}
	}
	cube := s.shrink(values)
	step := s.affirming.Add(proofs.Step{Rule: proofs.Cube, Lits: cube})
	// Literals of units are reduced: all universal ones are on the path, and further out.
	found := s.reduce(fact{kind: api.True, step: step})
	s.keep(found)
	return found
}

// holds tells whether all literals of a cube are true on the path.
func (s *search) holds(found fact, path lits.Set) bool {
	cube := s.lits(found)
	left := cube.Without(path)
	return left.Empty()
}

// shrink leaves out one value after the other, as long as the rest satisfies the formula. Universal ones go first, and the innermost ahead: a cube without them spares the search the other side of their variables.
func (s *search) shrink(values lits.Set) lits.Set {
	cube := s.shrinkKind(values, true)
	return s.shrinkKind(cube, false)
}

func (s *search) shrinkKind(cube lits.Set, universal bool) lits.Set {
	for i := len(s.formula.Vars) - 1; i >= 0; i-- {
		v := s.formula.Vars[i]
		less := cube.WithoutVar(v.Number)
		if v.Universal == universal && s.formula.Satisfied(less) {
			cube = less
		}
	}
	return cube
}
