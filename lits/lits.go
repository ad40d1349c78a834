// Package lits has sets of literals.
package lits

import "duel/api"

// Set is a set of literals: bit V of Pos stands for the literal V, bit V of Neg for -V. Sets are values: none is changed once it is made.
type Set struct {
	Pos, Neg int
}

// With tells the set with a literal added. A number that is no literal adds nothing.
func (s Set) With(literal int) Set {
	if literal < 0 {
		return Set{Pos: s.Pos, Neg: s.Neg | bit(-literal)}
	}
	return Set{Pos: s.Pos | bit(literal), Neg: s.Neg}
}

// WithoutVar tells the set without the literals of a variable.
func (s Set) WithoutVar(variable int) Set {
	b := bit(variable)
	return Set{Pos: s.Pos &^ b, Neg: s.Neg &^ b}
}

// Without tells the set without the literals of another.
func (s Set) Without(other Set) Set {
	return Set{Pos: s.Pos &^ other.Pos, Neg: s.Neg &^ other.Neg}
}

// Turned tells the literals turned: V for -V, -V for V.
func (s Set) Turned() Set {
	return Set{Pos: s.Neg, Neg: s.Pos}
}

// Union tells the literals of both sets.
func (s Set) Union(other Set) Set {
	return Set{Pos: s.Pos | other.Pos, Neg: s.Neg | other.Neg}
}

// Empty tells whether the set has no literals.
func (s Set) Empty() bool {
	return s.Pos|s.Neg == 0
}

// Has tells whether a literal is in the set.
func (s Set) Has(literal int) bool {
	if literal < 0 {
		return s.Neg&bit(-literal) != 0
	}
	return s.Pos&bit(literal) != 0
}

// HasVar tells whether a literal of the variable is in the set.
func (s Set) HasVar(variable int) bool {
	return (s.Pos|s.Neg)&bit(variable) != 0
}

// Clashes tells whether both literals of a variable are in the set.
func (s Set) Clashes() bool {
	return s.Pos&s.Neg != 0
}

// Meets tells whether a literal is in both sets.
func (s Set) Meets(other Set) bool {
	return s.Pos&other.Pos|s.Neg&other.Neg != 0
}

// List tells the literals, rising by their variables, V ahead of -V.
func (s Set) List() []int {
	var list []int
	for v := 1; v <= api.MaxVars; v++ {
		if s.Has(v) {
			list = append(list, v)
		}
		if s.Has(-v) {
			list = append(list, -v)
		}
	}
	return list
}

// VarOf tells the variable of a literal.
func VarOf(literal int) int {
	if literal < 0 {
		return -literal
	}
	return literal
}

// The test keeps the shift from a negative count, at which it would panic.
func bit(variable int) int {
	if variable < 1 || variable > api.MaxVars {
		return 0
	}
	return 1 << variable
}
