// Package proofs has proofs and their steps: it makes and writes them, and reads and checks them.
package proofs

import (
	"duel/api"
	"duel/lits"
	"duel/qbf"
)

// Rules tell what a step is.
const (
	Axiom     = 1 // a clause of the formula
	Cube      = 2 // literals that satisfy the formula
	Resolvent = 3 // of two steps
	Reduct    = 4 // of a step
)

// Step is a step with its literals. First is the clause that an axiom is, or the first step that a resolvent or a reduct is made of; a resolvent has a second one, and a variable. Clauses and steps are counted from 1.
type Step struct {
	Rule               int
	First, Second, Var int
	Lits               lits.Set
}

// Proof is what is proved, and the steps in their order.
type Proof struct {
	Kind  int
	Steps []Step
}

// Add lays a step behind the others, and tells its number.
func (p *Proof) Add(step Step) int {
	p.Steps = append(p.Steps, step)
	return len(p.Steps)
}

// Lits tells the literals of the step with this number.
func (p *Proof) Lits(number int) lits.Set {
	if number < 1 || number > len(p.Steps) {
		return lits.Set{}
	}
	return p.Steps[number-1].Lits
}

// Resolve adds the resolvent of two steps, whichever of them has the variable as it is, and tells its number.
func (p *Proof) Resolve(first int, second int, variable int) int {
	own := p.Lits(first)
	if !own.Has(variable) {
		first, second = second, first
	}
	step := Step{Rule: Resolvent, First: first, Second: second, Var: variable}
	step.Lits = p.resolvent(step)
	return p.Add(step)
}

func (p *Proof) resolvent(step Step) lits.Set {
	first := p.Lits(step.First)
	second := p.Lits(step.Second)
	both := first.Union(second)
	return both.WithoutVar(step.Var)
}

// Reduce adds the reduct of a step, if that has fewer literals, and tells the number of the step that has them.
func (p *Proof) Reduce(f qbf.Formula, number int) int {
	whole := p.Lits(number)
	rest := p.reduced(f, whole)
	if rest == whole {
		return number
	}
	return p.Add(Step{Rule: Reduct, First: number, Lits: rest})
}

// reduced tells the literals without those that are reduced: from the innermost variable on outwards, up to the first one in the set that could be a pivot.
func (p *Proof) reduced(f qbf.Formula, set lits.Set) lits.Set {
	for i := len(f.Vars) - 1; i >= 0; i-- {
		v := f.Vars[i]
		if !set.HasVar(v.Number) {
			continue
		}
		if p.isPivot(v) {
			break
		}
		set = set.WithoutVar(v.Number)
	}
	return set
}

// isPivot tells whether the variable is of the kind that steps are resolved on: existential in a proof of false, universal in one of true. The same kind holds literals of the other kind further out from being reduced.
func (p *Proof) isPivot(v qbf.Var) bool {
	return v.Universal == (p.Kind == api.True)
}

// Needed tells the proof that ends with the step of this number: with that step and those that it rests on, and no others.
func (p *Proof) Needed(last int) Proof {
	needed := p.needed(last)
	short := Proof{Kind: p.Kind}
	// The new numbers of the steps; those of clauses stay as they are.
	numbers := make([]int, len(p.Steps)+1)
	for i, step := range p.Steps {
		if !needed[i+1] {
			continue
		}
		if step.Rule != Axiom && step.First >= 0 && step.First <= i {
			step.First = numbers[step.First]
		}
		if step.Second >= 0 && step.Second <= i {
			step.Second = numbers[step.Second]
		}
		numbers[i+1] = short.Add(step)
	}
	return short
}

// needed tells for each number of a step whether the last one rests on it. Steps rest on steps ahead alone, so that one way through them from behind is enough.
func (p *Proof) needed(last int) []bool {
	needed := make([]bool, len(p.Steps)+1)
	for i := len(p.Steps); i > 0; i-- {
		if i == last {
			needed[i] = true
		}
		step := p.Steps[i-1]
		if !needed[i] || step.Rule == Axiom {
			continue
		}
		for _, ahead := range [2]int{step.First, step.Second} {
			if ahead > 0 && ahead < i {
				needed[ahead] = true
			}
		}
	}
	return needed
}
