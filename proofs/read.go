package proofs

import (
	"duel/api"
	"duel/lits"
	"duel/qbf"
	"duel/words"
)

// reader is a proof while its lines are read.
type reader struct {
	formula qbf.Formula
	proof   Proof
}

// Read tells the proof that a text is, or what is wrong with it and where (P5). No step of what it tells has both literals of a variable.
func Read(f qbf.Formula, text string) (Proof, api.Errno, int) {
	if len(text) > api.MaxProof {
		return Proof{}, api.ErrLong, 0
	}
	lines, ended := words.Lines(text)
	r := reader{formula: f}
	for i, line := range lines {
		if !r.readLine(i, line) {
			return Proof{}, api.ErrProof, i + 1
		}
	}
	if !ended || !r.closed() {
		return Proof{}, api.ErrProof, len(lines) + 1
	}
	return r.proof, api.OK, 0
}

// readLine adds what the line with this index says, and tells whether it is a line.
func (r *reader) readLine(index int, line string) bool {
	if index == 0 {
		return r.readKind(line)
	}
	if len(r.proof.Steps) >= api.MaxSteps {
		return false
	}
	list, ok := words.Split(line)
	if !ok {
		return false
	}
	step, ok := r.readStep(list)
	if !ok {
		return false
	}
	r.proof.Add(step)
	return true
}

func (r *reader) readKind(line string) bool {
	switch line {
	case "proof false":
		r.proof.Kind = api.False
		return true
	case "proof true":
		r.proof.Kind = api.True
		return true
	}
	return false
}

// closed tells whether the last step has no literals.
func (r *reader) closed() bool {
	last := len(r.proof.Steps)
	set := r.proof.Lits(last)
	return last > 0 && set.Empty()
}

// readStep tells the step with these words, and whether it is one.
func (r *reader) readStep(list []string) (Step, bool) {
	if len(list) == 0 {
		return Step{}, false
	}
	rest := list[1:]
	switch list[0] {
	case "a":
		return r.readAxiom(rest)
	case "c":
		return r.readCube(rest)
	case "r":
		return r.readResolvent(rest)
	case "d":
		return r.readReduct(rest)
	}
	return Step{}, false
}

func (r *reader) readAxiom(list []string) (Step, bool) {
	if r.proof.Kind != api.False || len(list) != 1 {
		return Step{}, false
	}
	k, ok := words.Number(list[0], len(r.formula.Clauses))
	if !ok {
		return Step{}, false
	}
	clause := r.formula.Clauses[k-1]
	return Step{Rule: Axiom, First: k, Lits: clause}, !clause.Clashes()
}

func (r *reader) readCube(list []string) (Step, bool) {
	if r.proof.Kind != api.True {
		return Step{}, false
	}
	cube := lits.Set{}
	last := 0
	for _, word := range list {
		literal, ok := words.Literal(word)
		if !ok {
			return Step{}, false
		}
		number := lits.VarOf(literal)
		v, ok := r.formula.Find(number)
		if !ok || v.Number <= last {
			return Step{}, false
		}
		cube = cube.With(literal)
		last = v.Number
	}
	return Step{Rule: Cube, Lits: cube}, r.formula.Satisfied(cube)
}

func (r *reader) readResolvent(list []string) (Step, bool) {
	if len(list) != 3 {
		return Step{}, false
	}
	i, firstOK := r.readNumber(list[0])
	j, secondOK := r.readNumber(list[1])
	v, ok := r.readPivot(list[2])
	if !firstOK || !secondOK || !ok {
		return Step{}, false
	}
	first := r.proof.Lits(i)
	second := r.proof.Lits(j)
	if !first.Has(v) || !second.Has(-v) {
		return Step{}, false
	}
	step := Step{Rule: Resolvent, First: i, Second: j, Var: v}
	step.Lits = r.proof.resolvent(step)
	return step, !step.Lits.Clashes()
}

func (r *reader) readPivot(word string) (int, bool) {
	number, ok := words.Variable(word)
	if !ok {
		return 0, false
	}
	v, ok := r.formula.Find(number)
	return number, ok && r.proof.isPivot(v)
}

func (r *reader) readReduct(list []string) (Step, bool) {
	if len(list) != 1 {
		return Step{}, false
	}
	i, ok := r.readNumber(list[0])
	whole := r.proof.Lits(i)
	return Step{Rule: Reduct, First: i, Lits: r.proof.reduced(r.formula, whole)}, ok
}

// readNumber tells the number of a step ahead that a word writes, and whether it does.
func (r *reader) readNumber(word string) (int, bool) {
	return words.Number(word, len(r.proof.Steps))
}
