package play

import (
	"duel/api"
	"duel/lits"
	"duel/proofs"
)

// rule is what the winning side draws from a step that reduces literals: if all of when are true, it makes those of then true. The variables of when are all further out than those of then, so that a rule is settled when its block is in turn.
type rule struct {
	when, then lits.Set
}

// rulesOf tells the rules that a proof gives, in the order of its steps.
//
// Whoever keeps to the first rule that fits, for each variable, wins. In a proof of false, look at the first step whose literals are all false in the end; the last step has none, so that there is one. It is no resolvent: one of the two that it is made of would be false too. It is no reduct: its rule fits, no earlier one does, and so the reduced literals were made false. So it is a clause of the formula. In a proof of true it is the same with true literals, and the step is a cube, which satisfies all clauses.
func rulesOf(p proofs.Proof) []rule {
	var rules []rule
	for _, step := range p.Steps {
		if step.Rule != proofs.Reduct {
			continue
		}
		whole := p.Lits(step.First)
		r := rule{when: step.Lits, then: whole.Without(step.Lits)}
		// The universal side wants literals false.
		if p.Kind == api.False {
			r = rule{when: r.when.Turned(), then: r.then.Turned()}
		}
		rules = append(rules, r)
	}
	return rules
}

// fits tells whether the rule says what the variable is to be, when these literals are true.
func (r rule) fits(variable int, values lits.Set) bool {
	open := r.when.Without(values)
	return open.Empty() && r.then.HasVar(variable)
}
