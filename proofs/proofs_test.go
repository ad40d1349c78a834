package proofs

import (
	"reflect"
	"strings"
	"testing"

	"duel/api"
	"duel/lits"
	"duel/qbf"
)

func set(literals ...int) lits.Set {
	s := lits.Set{}
	for _, l := range literals {
		s = s.With(l)
	}
	return s
}

// lines writes a text as the document's examples do: separated by / and each ended.
func lines(s string) string {
	return strings.ReplaceAll(s, " / ", "\n") + "\n"
}

func load(t *testing.T, text string) qbf.Formula {
	t.Helper()
	f, errno, line := qbf.Load(lines(text))
	if errno != api.OK {
		t.Fatalf("Load(%q): %d, line %d", text, errno, line)
	}
	return f
}

func TestStepsHaveTheirLiterals(t *testing.T) {
	for _, c := range []struct {
		formula, proof string
		kind           int
		steps          []lits.Set
	}{
		{"c", "proof false / a 1", api.False, []lits.Set{set()}},
		{"a 1 / c 1", "proof false / a 1 / d 1", api.False, []lits.Set{set(1), set()}},
		{"e 2 / a 1 / c 1 2 / c -1 -2", "proof false / a 1 / a 2 / d 1 / d 2 / r 3 4 2", api.False,
			[]lits.Set{set(1, 2), set(-1, -2), set(2), set(-2), set()}},
		{"a 1 / e 2 / c 1 2 / c -1 -2", "proof true / c 1 -2 / c -1 2 / d 1 / d 2 / r 3 4 1", api.True,
			[]lits.Set{set(1, -2), set(-1, 2), set(1), set(-1), set()}},
		{"e 1 2 / c 1 2 / c -2 / c -1", "proof false / a 1 / a 2 / r 1 2 2 / a 3 / r 3 4 1", api.False,
			[]lits.Set{set(1, 2), set(-2), set(1), set(-1), set()}},
	} {
		f := load(t, c.formula)
		p, errno, line := Read(f, lines(c.proof))
		var steps []lits.Set
		for _, step := range p.Steps {
			steps = append(steps, step.Lits)
		}
		if errno != api.OK || line != 0 || p.Kind != c.kind || !reflect.DeepEqual(steps, c.steps) {
			t.Errorf("of %q: Read(%q) = %v, %d, %d, want %d, %v", c.formula, c.proof, p, errno, line, c.kind, c.steps)
		}
	}
}

func TestErrorsTellNothingElse(t *testing.T) {
	f := load(t, "e 1 / c 1 / c -1")
	for _, text := range []string{"", "proof false", lines("proof false"), lines("proof false / a 1"), lines("proof false / a 1 / a 2 / r 1 2 1 / x"), strings.Repeat("x", 1<<18+1)} {
		p, errno, _ := Read(f, text)
		if errno == api.OK || p.Kind != 0 || p.Steps != nil {
			t.Errorf("Read(%.60q) = %v, %d", text, p, errno)
		}
	}
}

func TestReduce(t *testing.T) {
	f := load(t, "a 1 / e 2 3 / a 4 / a 5 / e 6 / a 7 / c 8")
	for _, c := range []struct {
		kind      int
		set, want lits.Set
	}{
		{api.False, set(), set()},
		{api.False, set(1, -4, 7), set()},
		{api.False, set(-1, 2, 4, -5), set(-1, 2)},
		{api.False, set(1, 3, 4, -6, -7), set(1, 3, 4, -6)},
		{api.False, set(-4, 8), set(8)},
		{api.False, set(1, -8, 5), set(-8)},
		{api.False, set(2, 3, 6, 8), set(2, 3, 6, 8)},
		{api.True, set(), set()},
		{api.True, set(2, -3, 6, -8), set()},
		{api.True, set(1, 2, -6, 8), set(1, 8)},
		{api.True, set(2, 4, -6), set(2, 4)},
		{api.True, set(-6, 7, -8), set(-6, 7, -8)},
		{api.True, set(-2, 3, -5, 6), set(-2, 3, -5)},
		{api.True, set(1, -4, 7), set(1, -4, 7)},
	} {
		p := Proof{Kind: c.kind}
		first := p.Add(Step{Rule: Cube, Lits: c.set})
		if got := p.Lits(p.Reduce(f, first)); got != c.want {
			t.Errorf("kind %d: the reduct of %v is %v, want %v", c.kind, c.set, got, c.want)
		}
		// A step of its own is worth its line only if it has fewer literals.
		if steps := len(p.Steps); steps != 1 && c.set == c.want || steps != 2 && c.set != c.want {
			t.Errorf("kind %d: with the reduct of %v there are %d steps", c.kind, c.set, steps)
		}
	}
}

func TestReadKeepsTheFormula(t *testing.T) {
	f := load(t, "e 2 / a 1 / c 1 2 / c -1 -2")
	before := load(t, "e 2 / a 1 / c 1 2 / c -1 -2")
	p, _, _ := Read(f, lines("proof false / a 1 / a 2 / d 1 / d 2 / r 3 4 2"))
	for i := range p.Steps {
		p.Steps[i] = Step{Lits: set(8)}
	}
	if !reflect.DeepEqual(f, before) {
		t.Errorf("the formula is %v, was %v", f, before)
	}
}

func TestNoWordsAreNoStep(t *testing.T) {
	f := load(t, "c")
	r := reader{formula: f, proof: Proof{Kind: api.False}}
	if _, ok := r.readStep(nil); ok {
		t.Errorf("no words are a step")
	}
}

func TestStepsHaveTheirRules(t *testing.T) {
	f := load(t, "e 1 / a 2 / c 1 2 / c 1 -1 / c -1 -2")
	p, _, _ := Read(f, lines("proof false / a 1 / a 3 / d 1 / d 2 / r 3 4 1"))
	want := []Step{{Axiom, 1, 0, 0, set(1, 2)}, {Axiom, 3, 0, 0, set(-1, -2)}, {Reduct, 1, 0, 0, set(1)}, {Reduct, 2, 0, 0, set(-1)}, {Resolvent, 3, 4, 1, set()}}
	if !reflect.DeepEqual(p.Steps, want) {
		t.Errorf("steps %v, want %v", p.Steps, want)
	}
	f = load(t, "a 2 / c 1 -2")
	p, _, _ = Read(f, lines("proof true / c 1 / c -2 / d 1"))
	want = []Step{{Cube, 0, 0, 0, set(1)}, {Cube, 0, 0, 0, set(-2)}, {Reduct, 1, 0, 0, set()}}
	if !reflect.DeepEqual(p.Steps, want) {
		t.Errorf("steps %v, want %v", p.Steps, want)
	}
}

func TestTextIsRead(t *testing.T) {
	for _, c := range []struct{ formula, proof string }{
		{"c", "proof false / a 1"},
		{"e 8", "proof true / c"},
		{"e 2 / a 1 / c 1 2 / c -1 -2", "proof false / a 1 / a 2 / d 1 / d 2 / r 3 4 2"},
		{"a 1 / e 2 / c 1 2 / c -1 -2", "proof true / c 1 -2 / c -1 2 / d 1 / d 2 / r 3 4 1"},
		{"e 8 7 6 5 4 3 2 1", "proof true / c -1 2 -3 4 -5 6 -7 8 / c 1 8 / d 1"},
		{"c 1 / c -1", "proof false" + strings.Repeat(" / a 1 / a 2", 60) + " / r 119 120 1 / r 1 20 1"},
	} {
		p, errno, line := Read(load(t, c.formula), lines(c.proof))
		if got := p.Text(); errno != api.OK || got != lines(c.proof) {
			t.Errorf("of %q: Read(%q): %d, line %d, and its text is %q", c.formula, c.proof, errno, line, got)
		}
	}
}

func TestNeeded(t *testing.T) {
	f := load(t, "c 1 / c -1 / c 2 / c -2 1")
	p, _, _ := Read(f, lines("proof false / a 4 / a 3 / a 3 / r 2 1 2 / d 4 / a 2 / a 1 / r 5 6 1 / d 8 / r 7 6 1"))
	for last, want := range map[int]string{
		1:  "proof false / a 4",
		4:  "proof false / a 4 / a 3 / r 2 1 2",
		5:  "proof false / a 4 / a 3 / r 2 1 2 / d 3",
		6:  "proof false / a 2",
		8:  "proof false / a 4 / a 3 / r 2 1 2 / d 3 / a 2 / r 4 5 1",
		9:  "proof false / a 4 / a 3 / r 2 1 2 / d 3 / a 2 / r 4 5 1 / d 6",
		10: "proof false / a 2 / a 1 / r 2 1 1",
		0:  "proof false",
		11: "proof false",
		-1: "proof false",
	} {
		short := p.Needed(last)
		if got := short.Text(); got != lines(want) {
			t.Errorf("what step %d needs: %q, want %q", last, got, want)
		}
	}
	if len(p.Steps) != 10 {
		t.Errorf("the proof has %d steps now", len(p.Steps))
	}
}

func TestResolve(t *testing.T) {
	p := Proof{Kind: api.False}
	one := p.Add(Step{Rule: Axiom, First: 1, Lits: set(1, 2)})
	other := p.Add(Step{Rule: Axiom, First: 2, Lits: set(-1, 2, -3)})
	want := Step{Rule: Resolvent, First: one, Second: other, Var: 1, Lits: set(2, -3)}
	for _, number := range []int{p.Resolve(one, other, 1), p.Resolve(other, one, 1)} {
		if p.Steps[number-1] != want {
			t.Errorf("step %d is %v, want %v", number, p.Steps[number-1], want)
		}
	}
}

func TestLitsOfNoStep(t *testing.T) {
	p := Proof{}
	p.Add(Step{Rule: Cube, Lits: set(1)})
	for _, none := range []int{0, -1, 2, 1 << 40, -1 << 40} {
		if got := p.Lits(none); !got.Empty() {
			t.Errorf("Lits(%d) = %v", none, got)
		}
	}
}
