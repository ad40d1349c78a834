// Package search finds whether a formula is true, and the proof of that.
//
// A node of the search is a path: values of the outermost variables. What is found of a node is a clause all of whose literals are false on the path, or a cube all of whose literals are true on it; each is a step of a proof, and has no literal that could be reduced. So the clause or cube of the node without values has no literals, and ends its proof.
package search

import (
	"duel/api"
	"duel/lits"
	"duel/proofs"
	"duel/qbf"
)

// Answer is what was found: Unknown without a proof, if the budget did not reach.
type Answer struct {
	Kind, Nodes, Lemmas int
	Proof               proofs.Proof
}

// fact is a clause (kind False) or a cube (kind True) that was found: the number of a step in the proof of that kind. Of kind Unknown nothing was found.
type fact struct {
	kind, step int
}

// search is what is known while nodes are looked at. The first steps of refuting are the clauses of the formula; one with both literals of a variable is among them, but is never false, so that no step rests on it.
type search struct {
	formula    qbf.Formula
	universals lits.Set
	budget     int
	nodes      int
	refuting   proofs.Proof
	affirming  proofs.Proof
	lemmas     store
}

// Solve looks at no more nodes than the budget, or at any number if that is 0, and keeps no more lemmas at once than there is room for (P6).
func Solve(f qbf.Formula, budget int, room int) Answer {
	s := begin(f, budget, room)
	found := s.look(lits.Set{}, 0)
	answer := Answer{Kind: found.kind, Nodes: s.nodes, Lemmas: s.lemmas.most}
	switch found.kind {
	case api.False:
		answer.Proof = s.refuting.Needed(found.step)
	case api.True:
		answer.Proof = s.affirming.Needed(found.step)
	}
	return answer
}

func begin(f qbf.Formula, budget int, room int) search {
	s := search{formula: f, budget: budget, lemmas: store{room: room}}
	s.refuting.Kind = api.False
	s.affirming.Kind = api.True
	for i, clause := range f.Clauses {
		s.refuting.Add(proofs.Step{Rule: proofs.Axiom, First: i + 1, Lits: clause})
	}
	for _, v := range f.Vars {
		if v.Universal {
			both := s.universals.With(v.Number)
			s.universals = both.With(-v.Number)
		}
	}
	return s
}

// look looks at the node whose path has values of this many variables.
func (s *search) look(path lits.Set, depth int) fact {
	if s.budget > 0 && s.nodes >= s.budget {
		return fact{}
	}
	s.nodes++
	u := s.findUnits(path)
	if u.conflict > 0 {
		return s.explain(u)
	}
	won := s.findCube(path, u.values)
	if won.kind != api.Unknown {
		return won
	}
	return s.branch(path, depth, u.values)
}

// branch looks at the nodes on both sides of a variable. A clause or cube without the variable holds on both of them. Of one that has it the variable is not reduced, though it is the innermost one: so it is a pivot, and what both sides found is of one kind.
func (s *search) branch(path lits.Set, depth int, values lits.Set) fact {
	// Never so: when all variables have values, a clause is false or all are satisfied.
	if depth >= len(s.formula.Vars) {
		return fact{}
	}
	v := s.formula.Vars[depth].Number
	side := v
	// The side that units rule out comes last, if at all.
	if values.Has(-v) {
		side = -v
	}
	near := path.With(side)
	first := s.look(near, depth+1)
	if !s.has(first, v) {
		return first
	}
	far := path.With(-side)
	second := s.look(far, depth+1)
	if !s.has(second, v) {
		return second
	}
	return s.join(first, second, v)
}

// has tells whether a literal of the variable is in what was found.
func (s *search) has(found fact, variable int) bool {
	set := s.lits(found)
	return set.HasVar(variable)
}

// lits tells the literals of what was found: none, if nothing was.
func (s *search) lits(found fact) lits.Set {
	proof := s.proof(found.kind)
	return proof.Lits(found.step)
}

// proof tells the proof that facts of this kind are steps of.
func (s *search) proof(kind int) *proofs.Proof {
	if kind == api.True {
		return &s.affirming
	}
	return &s.refuting
}

// join finds what follows from what both sides of a variable found.
func (s *search) join(first fact, second fact, variable int) fact {
	proof := s.proof(first.kind)
	step := proof.Resolve(first.step, second.step, variable)
	found := s.reduce(fact{kind: first.kind, step: step})
	s.keep(found)
	return found
}

func (s *search) reduce(found fact) fact {
	proof := s.proof(found.kind)
	step := proof.Reduce(s.formula, found.step)
	return fact{kind: found.kind, step: step}
}

// keep keeps what was found, but for what ends the search.
func (s *search) keep(found fact) {
	set := s.lits(found)
	if !set.Empty() {
		s.lemmas.keep(found)
	}
}
