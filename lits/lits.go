// Package lits has sets of literals.
package lits

import "duel/api"

// Set is a set of literals: bit V of Pos stands for the literal V, bit V of Neg for -V. Sets are values: none is changed once it is made.
type Set struct {
	Pos, Neg int
}

// With tells the set with a literal added. A number that is no literal adds nothing.
func (s Set) With(literal int) Set {
	if literal < 0 {
		return Set{Pos: s.Pos, Neg: s.Neg | bit(-literal)}
	}
	return Set{Pos: s.Pos | bit(literal), Neg: s.Neg}
}

// HasVar tells whether a literal of the variable is in the set.
func (s Set) HasVar(variable int) bool {
	return (s.Pos|s.Neg)&bit(variable) != 0
}

// The test keeps the shift from a negative count, at which it would panic.
func bit(variable int) int {
	if variable < 1 || variable > api.MaxVars {
		return 0
	}
	return 1 << variable
}
