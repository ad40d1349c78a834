package proofs

import (
	"reflect"
	"strings"
	"testing"

	"duel/api"
	"duel/lits"
	"duel/qbf"
)

func set(literals ...int) lits.Set {
	s := lits.Set{}
	for _, l := range literals {
		s = s.With(l)
	}
	return s
}

// lines writes a text as the document's examples do: separated by / and each ended.
func lines(s string) string {
	return strings.ReplaceAll(s, " / ", "\n") + "\n"
}

func load(t *testing.T, text string) qbf.Formula {
	t.Helper()
	f, errno, line := qbf.Load(lines(text))
	if errno != api.OK {
		t.Fatalf("Load(%q): %d, line %d", text, errno, line)
	}
	return f
}

func TestStepsHaveTheirLiterals(t *testing.T) {
	for _, c := range []struct {
		formula, proof string
		kind           int
		steps          []lits.Set
	}{
		{"c", "proof false / a 1", api.False, []lits.Set{set()}},
		{"a 1 / c 1", "proof false / a 1 / d 1", api.False, []lits.Set{set(1), set()}},
		{"e 2 / a 1 / c 1 2 / c -1 -2", "proof false / a 1 / a 2 / d 1 / d 2 / r 3 4 2", api.False,
			[]lits.Set{set(1, 2), set(-1, -2), set(2), set(-2), set()}},
		{"a 1 / e 2 / c 1 2 / c -1 -2", "proof true / c 1 -2 / c -1 2 / d 1 / d 2 / r 3 4 1", api.True,
			[]lits.Set{set(1, -2), set(-1, 2), set(1), set(-1), set()}},
		{"e 1 2 / c 1 2 / c -2 / c -1", "proof false / a 1 / a 2 / r 1 2 2 / a 3 / r 3 4 1", api.False,
			[]lits.Set{set(1, 2), set(-2), set(1), set(-1), set()}},
	} {
		f := load(t, c.formula)
		p, errno, line := Read(f, lines(c.proof))
		if errno != api.OK || line != 0 || p.Kind != c.kind || !reflect.DeepEqual(p.Steps, c.steps) {
			t.Errorf("of %q: Read(%q) = %v, %d, %d, want %d, %v", c.formula, c.proof, p, errno, line, c.kind, c.steps)
		}
	}
}

func TestErrorsTellNothingElse(t *testing.T) {
	f := load(t, "e 1 / c 1 / c -1")
	for _, text := range []string{"", "proof false", lines("proof false"), lines("proof false / a 1"), lines("proof false / a 1 / a 2 / r 1 2 1 / x"), strings.Repeat("x", 1<<18+1)} {
		p, errno, _ := Read(f, text)
		if errno == api.OK || p.Kind != 0 || p.Steps != nil {
			t.Errorf("Read(%.60q) = %v, %d", text, p, errno)
		}
	}
}

func TestReduce(t *testing.T) {
	f := load(t, "a 1 / e 2 3 / a 4 / a 5 / e 6 / a 7 / c 8")
	for _, c := range []struct {
		kind      int
		set, want lits.Set
	}{
		{api.False, set(), set()},
		{api.False, set(1, -4, 7), set()},
		{api.False, set(-1, 2, 4, -5), set(-1, 2)},
		{api.False, set(1, 3, 4, -6, -7), set(1, 3, 4, -6)},
		{api.False, set(-4, 8), set(8)},
		{api.False, set(1, -8, 5), set(-8)},
		{api.False, set(2, 3, 6, 8), set(2, 3, 6, 8)},
		{api.True, set(), set()},
		{api.True, set(2, -3, 6, -8), set()},
		{api.True, set(1, 2, -6, 8), set(1, 8)},
		{api.True, set(2, 4, -6), set(2, 4)},
		{api.True, set(-6, 7, -8), set(-6, 7, -8)},
		{api.True, set(-2, 3, -5, 6), set(-2, 3, -5)},
		{api.True, set(1, -4, 7), set(1, -4, 7)},
	} {
		r := reader{formula: f, proof: Proof{Kind: c.kind}}
		if got := r.reduce(c.set); got != c.want {
			t.Errorf("kind %d: reduce(%v) = %v, want %v", c.kind, c.set, got, c.want)
		}
	}
}

func TestReadKeepsTheFormula(t *testing.T) {
	f := load(t, "e 2 / a 1 / c 1 2 / c -1 -2")
	before := load(t, "e 2 / a 1 / c 1 2 / c -1 -2")
	p, _, _ := Read(f, lines("proof false / a 1 / a 2 / d 1 / d 2 / r 3 4 2"))
	for i := range p.Steps {
		p.Steps[i] = set(8)
	}
	if !reflect.DeepEqual(f, before) {
		t.Errorf("the formula is %v, was %v", f, before)
	}
}

func TestNoWordsAreNoStep(t *testing.T) {
	f := load(t, "c")
	r := reader{formula: f, proof: Proof{Kind: api.False}}
	if _, ok := r.readStep(nil); ok {
		t.Errorf("no words are a step")
	}
}
