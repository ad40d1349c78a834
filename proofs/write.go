package proofs

import (
	"strconv"

	"duel/api"
)

// Text writes the proof as Read reads it.
func (p *Proof) Text() string {
	first := "proof false\n"
	if p.Kind == api.True {
		first = "proof true\n"
	}
	var text []byte
	text = append(text, first...)
	for _, step := range p.Steps {
		line := step.line()
		text = append(text, line...)
	}
	return string(text)
}

func (s Step) line() string {
	switch s.Rule {
	case Axiom:
		return "a " + strconv.Itoa(s.First) + "\n"
	case Cube:
		return s.cubeLine()
	case Resolvent:
		return s.resolventLine()
	}
	return "d " + strconv.Itoa(s.First) + "\n"
}

func (s Step) resolventLine() string {
	first := strconv.Itoa(s.First)
	second := strconv.Itoa(s.Second)
	variable := strconv.Itoa(s.Var)
	return "r " + first + " " + second + " " + variable + "\n"
}

func (s Step) cubeLine() string {
	line := "c"
	for _, literal := range s.Lits.List() {
		line += " " + strconv.Itoa(literal)
	}
	return line + "\n"
}
