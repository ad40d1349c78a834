// Package play plays proofs: it works out the moves of the side that a proof says wins.
package play

import (
	"duel/api"
	"duel/lits"
	"duel/proofs"
	"duel/qbf"
)

// block is a block of variables, and whether the winning side plays it.
type block struct {
	variables []int
	winners   bool
}

// Game is a formula that is played by a proof. The blocks ahead of turn have been played; values has the literals that are true since.
type Game struct {
	blocks []block
	rules  []rule
	turn   int
	values lits.Set
}

// Open begins a game: the winning side has played what is in turn at once.
func Open(f qbf.Formula, p proofs.Proof) Game {
	g := Game{rules: rulesOf(p)}
	for _, variables := range f.Blocks() {
		g.blocks = append(g.blocks, block{variables: variables, winners: wins(f, p, variables)})
	}
	g.answer()
	return g
}

// wins tells whether these variables, of one kind, are those of the side that wins.
func wins(f qbf.Formula, p proofs.Proof, variables []int) bool {
	if len(variables) == 0 {
		return false
	}
	v, _ := f.Find(variables[0])
	return v.Universal == (p.Kind == api.False)
}

// Turn tells the number of the block in turn, or of the blocks if all have been played.
func (g *Game) Turn() int {
	return g.turn
}

// Values tells for each variable whether it is true (1) or false (-1) or has no value (0).
func (g *Game) Values() []int {
	list := make([]int, api.MaxVars)
	for i := range list {
		if g.values.Has(i + 1) {
			list[i] = 1
		}
		if g.values.Has(-i - 1) {
			list[i] = -1
		}
	}
	return list
}

// Move plays the block in turn as the losing side says, and then what is the winning side's (P9).
func (g *Game) Move(bits int) api.Errno {
	if g.turn >= len(g.blocks) {
		return api.ErrOver
	}
	variables := g.blocks[g.turn].variables
	if bits < 0 || bits >= 1<<len(variables) {
		return api.ErrBadMove
	}
	for i, v := range variables {
		g.set(v, bits>>i&1 == 1)
	}
	g.turn++
	g.answer()
	return api.OK
}

// answer plays the blocks of the winning side that are in turn.
func (g *Game) answer() {
	for g.turn < len(g.blocks) && g.blocks[g.turn].winners {
		for _, v := range g.blocks[g.turn].variables {
			value := g.wanted(v)
			g.set(v, value)
		}
		g.turn++
	}
}

// wanted tells whether the winning side makes the variable true. It is false if no rule says what it is to be: either value wins then.
func (g *Game) wanted(variable int) bool {
	for _, r := range g.rules {
		if r.fits(variable, g.values) {
			return r.then.Has(variable)
		}
	}
	return false
}

func (g *Game) set(variable int, value bool) {
	literal := -variable
	if value {
		literal = variable
	}
	g.values = g.values.With(literal)
}
