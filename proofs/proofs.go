// Package proofs reads proofs and checks them, step by step.
package proofs

import (
	"duel/api"
	"duel/lits"
	"duel/qbf"
	"duel/words"
)

// Proof is a proof that holds: what it proves, and the literals of its steps in their order. No step has both literals of a variable.
type Proof struct {
	Kind  int
	Steps []lits.Set
}

// reader is a proof while its lines are read.
type reader struct {
	formula qbf.Formula
	proof   Proof
}

// Read tells the proof that a text is, or what is wrong with it and where (P5).
func Read(f qbf.Formula, text string) (Proof, api.Errno, int) {
	if len(text) > api.MaxProof {
		return Proof{}, api.ErrLong, 0
	}
	lines, ended := words.Lines(text)
	r := reader{formula: f}
	for i, line := range lines {
		if !r.readLine(i, line) {
			return Proof{}, api.ErrProof, i + 1
		}
	}
	if !ended || !r.closed() {
		return Proof{}, api.ErrProof, len(lines) + 1
	}
	return r.proof, api.OK, 0
}

// readLine adds what the line with this index says, and tells whether it is a line.
func (r *reader) readLine(index int, line string) bool {
	if index == 0 {
		return r.readKind(line)
	}
	if len(r.proof.Steps) >= api.MaxSteps {
		return false
	}
	list, ok := words.Split(line)
	if !ok {
		return false
	}
	step, ok := r.readStep(list)
	if !ok {
		return false
	}
	r.proof.Steps = append(r.proof.Steps, step)
	return true
}

func (r *reader) readKind(line string) bool {
	switch line {
	case "proof false":
		r.proof.Kind = api.False
		return true
	case "proof true":
		r.proof.Kind = api.True
		return true
	}
	return false
}

// closed tells whether the last step has no literals.
func (r *reader) closed() bool {
	last := len(r.proof.Steps) - 1
	return last >= 0 && r.proof.Steps[last].Empty()
}

// readStep tells the literals of the step with these words, and whether it is one.
func (r *reader) readStep(list []string) (lits.Set, bool) {
	if len(list) == 0 {
		return lits.Set{}, false
	}
	rest := list[1:]
	switch list[0] {
	case "a":
		return r.readAxiom(rest)
	case "c":
		return r.readCube(rest)
	case "r":
		return r.readResolvent(rest)
	case "d":
		return r.readReduct(rest)
	}
	return lits.Set{}, false
}

func (r *reader) readAxiom(list []string) (lits.Set, bool) {
	if r.proof.Kind != api.False || len(list) != 1 {
		return lits.Set{}, false
	}
	k, ok := words.Number(list[0], len(r.formula.Clauses))
	if !ok {
		return lits.Set{}, false
	}
	clause := r.formula.Clauses[k-1]
	return clause, !clause.Clashes()
}

func (r *reader) readCube(list []string) (lits.Set, bool) {
	if r.proof.Kind != api.True {
		return lits.Set{}, false
	}
	cube := lits.Set{}
	last := 0
	for _, word := range list {
		literal, ok := words.Literal(word)
		if !ok {
			return lits.Set{}, false
		}
		number := lits.VarOf(literal)
		v, ok := r.formula.Find(number)
		if !ok || v.Number <= last {
			return lits.Set{}, false
		}
		cube = cube.With(literal)
		last = v.Number
	}
	return cube, r.satisfies(cube)
}

// satisfies tells whether each clause is satisfied if the literals of the cube are true.
func (r *reader) satisfies(cube lits.Set) bool {
	for _, clause := range r.formula.Clauses {
		met := clause.Meets(cube)
		if !met && !clause.Clashes() {
			return false
		}
	}
	return true
}

func (r *reader) readResolvent(list []string) (lits.Set, bool) {
	if len(list) != 3 {
		return lits.Set{}, false
	}
	first, firstOK := r.stepAhead(list[0])
	second, secondOK := r.stepAhead(list[1])
	v, ok := r.readPivot(list[2])
	if !firstOK || !secondOK || !ok {
		return lits.Set{}, false
	}
	if !first.Has(v) || !second.Has(-v) {
		return lits.Set{}, false
	}
	both := first.Union(second)
	rest := both.WithoutVar(v)
	return rest, !rest.Clashes()
}

func (r *reader) readPivot(word string) (int, bool) {
	number, ok := words.Variable(word)
	if !ok {
		return 0, false
	}
	v, ok := r.formula.Find(number)
	return number, ok && r.isPivot(v)
}

func (r *reader) readReduct(list []string) (lits.Set, bool) {
	if len(list) != 1 {
		return lits.Set{}, false
	}
	step, ok := r.stepAhead(list[0])
	return r.reduce(step), ok
}

// stepAhead tells the literals of the step whose number a word writes, and whether there is such a step ahead.
func (r *reader) stepAhead(word string) (lits.Set, bool) {
	n, ok := words.Number(word, len(r.proof.Steps))
	if !ok {
		return lits.Set{}, false
	}
	return r.proof.Steps[n-1], true
}

// isPivot tells whether the variable is of the kind that steps are resolved on: existential in a proof of false, universal in one of true. The same kind holds literals of the other kind further out from being reduced.
func (r *reader) isPivot(v qbf.Var) bool {
	return v.Universal == (r.proof.Kind == api.True)
}

// reduce tells the literals without those that are reduced: from the innermost variable on outwards, up to the first one in the set that could be a pivot.
func (r *reader) reduce(set lits.Set) lits.Set {
	for i := len(r.formula.Vars) - 1; i >= 0; i-- {
		v := r.formula.Vars[i]
		if !set.HasVar(v.Number) {
			continue
		}
		if r.isPivot(v) {
			break
		}
		set = set.WithoutVar(v.Number)
	}
	return set
}
