package search

import (
	"duel/api"
	"duel/lits"
)

// unit is a literal that was made true, and the step of the clause all of whose other literals were false.
type unit struct {
	literal, step int
}

// units is what follows on a path: the values of the path with those of the units, the units in the order in which they were made true, and the step of a clause that cannot be satisfied any more, or 0.
type units struct {
	values   lits.Set
	trail    []unit
	conflict int
}

// findUnits makes units true until none is left or a conflict is seen. Each time the first clause that allows it is taken, those of the text ahead of those that are kept: P7 counts the units of that order.
func (s *search) findUnits(path lits.Set) units {
	u := units{values: path}
	clauses := s.clauses()
	for len(u.trail) <= len(s.formula.Vars) {
		u.conflict = s.findConflict(clauses, u.values)
		if u.conflict > 0 {
			return u
		}
		next := s.findUnit(clauses, u.values)
		if next.step == 0 {
			return u
		}
		u.values = u.values.With(next.literal)
		u.trail = append(u.trail, next)
	}
	return u
}

// clauses tells the steps that are clauses of the text, in its order, then those that are kept.
func (s *search) clauses() []int {
	var list []int
	for i := range s.formula.Clauses {
		list = append(list, i+1)
	}
	for _, found := range s.lemmas.kept {
		if found.kind == api.False {
			list = append(list, found.step)
		}
	}
	return list
}

// findConflict tells the first clause that cannot be satisfied: none of its literals is true, and the other side can make false those that are left.
func (s *search) findConflict(clauses []int, values lits.Set) int {
	for _, step := range clauses {
		left, open := s.left(step, values)
		own := left.Without(s.universals)
		if open && own.Empty() {
			return step
		}
	}
	return 0
}

// findUnit tells the first unit, or one with step 0 if there is none.
func (s *search) findUnit(clauses []int, values lits.Set) unit {
	for _, step := range clauses {
		left, open := s.left(step, values)
		list := left.List()
		if open && len(list) == 1 && !left.Meets(s.universals) {
			return unit{literal: list[0], step: step}
		}
	}
	return unit{}
}

// left tells the literals of a clause that are not false, and whether the clause is open: it is not satisfied yet, and need not be.
func (s *search) left(step int, values lits.Set) (lits.Set, bool) {
	clause := s.refuting.Lits(step)
	left := clause.Without(values.Turned())
	return left, !clause.Meets(values) && !clause.Clashes()
}

// explain finds a clause that is false on the path alone: from the last unit to the first, those that the conflict rests on are resolved with their clauses. Universal literals that are not on the path come from the clause of the conflict alone, so that none meets its turn, and they are reduced in the end, since only the path's variables are left beside them.
func (s *search) explain(u units) fact {
	step := u.conflict
	for i := len(u.trail) - 1; i >= 0; i-- {
		made := u.trail[i]
		clause := s.refuting.Lits(step)
		if clause.Has(-made.literal) {
			variable := lits.VarOf(made.literal)
			step = s.refuting.Resolve(made.step, step, variable)
		}
	}
	found := s.reduce(fact{kind: api.False, step: step})
	// The clause of the conflict itself tells nothing new.
	if step != u.conflict {
		s.keep(found)
	}
	return found
}
