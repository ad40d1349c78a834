// Package qbf reads formulas and holds them.
package qbf

import (
	"duel/api"
	"duel/lits"
	"duel/words"
)

// Var is a variable with its kind.
type Var struct {
	Number    int
	Universal bool
}

// Formula is a formula. Vars goes from the outermost variable to the innermost, and has those too that no line of the prefix names. Clauses are in the order of the text.
type Formula struct {
	Vars    []Var
	Clauses []lits.Set
}

// Load reads a formula (P3).
func Load(text string) (Formula, api.Errno, int) {
	if len(text) > api.MaxText {
		return Formula{}, api.ErrLong, 0
	}
	lines, ended := words.Lines(text)
	f := Formula{}
	for i, line := range lines {
		if !f.readLine(line) {
			return Formula{}, api.ErrSyntax, i + 1
		}
	}
	if !ended {
		return Formula{}, api.ErrSyntax, len(lines) + 1
	}
	// Only here: a line that is none is told ahead of too many that are some.
	if len(f.Clauses) > api.MaxClauses {
		return Formula{}, api.ErrLimit, 0
	}
	f.Vars = f.withFree()
	return f, api.OK, 0
}

// readLine adds what a line says, and tells whether it is a line.
func (f *Formula) readLine(line string) bool {
	list, ok := words.Split(line)
	if !ok || len(list) == 0 {
		return false
	}
	switch list[0] {
	case "e":
		return f.readPrefix(list[1:], false)
	case "a":
		return f.readPrefix(list[1:], true)
	case "c":
		return f.readClause(list[1:])
	}
	return false
}

func (f *Formula) readPrefix(list []string, universal bool) bool {
	if len(list) == 0 || len(f.Clauses) > 0 {
		return false
	}
	for _, word := range list {
		v, ok := words.Variable(word)
		if !ok {
			return false
		}
		_, twice := f.Find(v)
		if twice {
			return false
		}
		f.Vars = append(f.Vars, Var{Number: v, Universal: universal})
	}
	return true
}

func (f *Formula) readClause(list []string) bool {
	clause := lits.Set{}
	for _, word := range list {
		literal, ok := words.Literal(word)
		if !ok {
			return false
		}
		clause = clause.With(literal)
	}
	f.Clauses = append(f.Clauses, clause)
	return true
}

// withFree tells the variables with those ahead that stand in clauses alone.
func (f *Formula) withFree() []Var {
	var all []Var
	for v := 1; v <= api.MaxVars; v++ {
		_, named := f.Find(v)
		if !named && f.inClauses(v) {
			all = append(all, Var{Number: v})
		}
	}
	all = append(all, f.Vars...)
	return all
}

// Find tells the variable with this number, and whether the formula has it.
func (f *Formula) Find(number int) (Var, bool) {
	for _, v := range f.Vars {
		if v.Number == number {
			return v, true
		}
	}
	return Var{}, false
}

// Satisfied tells whether each clause is satisfied if these literals are true, whatever the other variables are.
func (f *Formula) Satisfied(literals lits.Set) bool {
	for _, clause := range f.Clauses {
		met := clause.Meets(literals)
		if !met && !clause.Clashes() {
			return false
		}
	}
	return true
}

func (f *Formula) inClauses(variable int) bool {
	for _, clause := range f.Clauses {
		if clause.HasVar(variable) {
			return true
		}
	}
	return false
}

// Blocks tells the variables block by block (P4). Each list is made anew: it is the caller's.
func (f *Formula) Blocks() [][]int {
	var blocks [][]int
	var block []int
	for i, v := range f.Vars {
		if i > 0 && v.Universal != f.Vars[i-1].Universal {
			blocks = append(blocks, block)
			block = nil
		}
		block = append(block, v.Number)
	}
	if len(block) > 0 {
		blocks = append(blocks, block)
	}
	return blocks
}
