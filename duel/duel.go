// Package duel: quantified Boolean formulas, proofs, duels: see DOC.md.
package duel

import (
	"duel/api"
	"duel/proofs"
	"duel/qbf"
)

// Formula is a formula as it was read.
type Formula struct {
	read qbf.Formula
}

// Verdict is what is found, and the proof of it (P6).
type Verdict struct {
	Kind, Nodes, Lemmas int
	Proof               string
}

// Duel is a proof that is played.
type Duel struct{}

// Load reads a formula (P3).
func Load(s string) (*Formula, api.Errno, int) {
	read, errno, line := qbf.Load(s)
	if errno != api.OK {
		return nil, errno, line
	}
	return &Formula{read: read}, api.OK, 0
}

// Blocks tells the variables block by block (P4).
func (f *Formula) Blocks() [][]int {
	if f == nil {
		return nil
	}
	return f.read.Blocks()
}

// Check tells what a text proves (P5).
func (f *Formula) Check(proof string) (int, api.Errno, int) {
	// A formula that was not loaded is as one without lines.
	formula := qbf.Formula{}
	if f != nil {
		formula = f.read
	}
	read, errno, line := proofs.Read(formula, proof)
	return read.Kind, errno, line
}

// Solve finds whether the formula is true (P6).
func (f *Formula) Solve(budget int, lemmas int) (Verdict, api.Errno) { return Verdict{}, api.OK }

// Open begins a duel on a proof (P8).
func (f *Formula) Open(proof string) (*Duel, api.Errno, int) { return nil, api.OK, 0 }

// Turn tells the block in turn (P8).
func (d *Duel) Turn() int { return 0 }

// Move plays the block in turn (P9).
func (d *Duel) Move(bits int) api.Errno { return api.OK }

// Values tells the variables' values (P8).
func (d *Duel) Values() []int { return nil }
