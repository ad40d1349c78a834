// Package duel: quantified Boolean formulas, proofs, duels: see DOC.md.
package duel

import (
	"duel/api"
	"duel/play"
	"duel/proofs"
	"duel/qbf"
	"duel/search"
)

// Formula is a formula as it was read.
type Formula struct {
	read qbf.Formula
}

// Verdict is what is found, and the proof of it (P6).
type Verdict struct {
	Kind, Nodes, Lemmas int
	Proof               string
}

// Duel is a proof that is played.
type Duel struct {
	game play.Game
}

// Load reads a formula (P3).
func Load(s string) (*Formula, api.Errno, int) {
	read, errno, line := qbf.Load(s)
	if errno != api.OK {
		return nil, errno, line
	}
	return &Formula{read: read}, api.OK, 0
}

// Blocks tells the variables block by block (P4).
func (f *Formula) Blocks() [][]int {
	read := f.formula()
	return read.Blocks()
}

// Check tells what a text proves (P5).
func (f *Formula) Check(proof string) (int, api.Errno, int) {
	read, errno, line := proofs.Read(f.formula(), proof)
	return read.Kind, errno, line
}

// formula tells what was read; a formula that was not loaded is as one without lines.
func (f *Formula) formula() qbf.Formula {
	if f == nil {
		return qbf.Formula{}
	}
	return f.read
}

// Solve finds whether the formula is true (P6).
func (f *Formula) Solve(budget int, lemmas int) (Verdict, api.Errno) {
	if budget < 0 || budget > api.MaxBudget || lemmas < 0 || lemmas > api.MaxLemmas {
		return Verdict{}, api.ErrArg
	}
	answer := search.Solve(f.formula(), budget, lemmas)
	verdict := Verdict{Kind: answer.Kind, Nodes: answer.Nodes, Lemmas: answer.Lemmas}
	if answer.Kind != api.Unknown {
		verdict.Proof = answer.Proof.Text()
	}
	return verdict, api.OK
}

// Open begins a duel on a proof (P8).
func (f *Formula) Open(proof string) (*Duel, api.Errno, int) {
	formula := f.formula()
	read, errno, line := proofs.Read(formula, proof)
	if errno != api.OK {
		return nil, errno, line
	}
	return &Duel{game: play.Open(formula, read)}, api.OK, 0
}

// Turn tells the block in turn (P8). A duel that was not opened is as one without blocks.
func (d *Duel) Turn() int {
	if d == nil {
		return 0
	}
	return d.game.Turn()
}

// Move plays the block in turn (P9).
func (d *Duel) Move(bits int) api.Errno {
	if d == nil {
		return api.ErrOver
	}
	return d.game.Move(bits)
}

// Values tells the variables' values (P8).
func (d *Duel) Values() []int {
	if d == nil {
		return make([]int, api.MaxVars)
	}
	return d.game.Values()
}
