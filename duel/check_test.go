package duel_test

import (
	"strings"
	"testing"

	"duel/api"
	"duel/duel"
)

// wantCheck tests P1 and P2 too: an error comes with nothing but the line, and asking again answers the same; and of P8 that the errors of Open are the same.
func wantCheck(t *testing.T, formula, proof string, kind int, errno api.Errno, line int) {
	t.Helper()
	f := wantLoad(t, formula, api.OK, 0)
	if f == nil {
		return
	}
	for i := 0; i < 2; i++ {
		k, e, l := f.Check(proof)
		if k != kind || e != errno || l != line {
			t.Errorf("of %.60q: Check(%.120q), call %d, = %d, %d, line %d, want %d, %d, line %d", formula, proof, i+1, k, e, l, kind, errno, line)
		}
	}
	if d, e, l := f.Open(proof); (d != nil) != (errno == api.OK) || e != errno || l != line {
		t.Errorf("of %.60q: Open(%.120q) = %v, %d, line %d, want %d, line %d", formula, proof, d, e, l, errno, line)
	}
}

// Formulas that more than one test uses; each name ends in what the formula is.
const (
	innerTrue   = "a 1 / e 2 / c 1 2 / c -1 -2"
	outerFalse  = "e 2 / a 1 / c 1 2 / c -1 -2"
	fourFalse   = "c 1 2 / c 1 -2 / c -1 2 / c -1 -2"
	parityTrue  = "a 1 2 / e 3 / c 1 2 -3 / c 1 -2 3 / c -1 2 3 / c -1 -2 -3"
	threeTrue   = "e 1 / a 2 / e 3 / c 1 3 / c -1 2 -3 / c -1 -2 3 / c 1 -2 -3"
	threeFalse  = "e 1 / a 2 / e 3 / c 1 2 3 / c 1 -3 / c -1 -2 3 / c -1 -2 -3"
	pivotsFalse = "a 1 / e 2 / c 1 2 / c -1 2 / c -2"
)

func TestBoundsOfProofs(t *testing.T) {
	if api.MaxProof != 1<<18 || api.MaxSteps != 9000 {
		t.Errorf("bounds %d, %d", api.MaxProof, api.MaxSteps)
	}
}

func TestCheckTakes(t *testing.T) {
	wantCheck(t, "", lines("proof true / c"), api.True, api.OK, 0)
	for _, c := range []struct {
		formula, proof string
		kind           int
	}{
		{"c", "proof false / a 1", api.False},
		{"a 1", "proof true / c", api.True},
		{"a 1", "proof true / c 1 / c -1 / r 1 2 1", api.True},
		{"a 1 / c 1", "proof false / a 1 / d 1", api.False},
		{"e 1 / c 1", "proof true / c 1 / d 1", api.True},
		{"c 1", "proof true / c 1 / d 1", api.True},
		{"c 1 -1", "proof true / c", api.True},
		{"c 1 -1 / c 2", "proof true / c 2 / d 1", api.True},
		{"c 1 -1 / c 2", "proof true / c -1 2 / d 1", api.True},
		{"c 1 -1 / c 2 / c -2", "proof false / a 2 / a 3 / r 1 2 2", api.False},
		{innerTrue, "proof true / c 1 -2 / c -1 2 / d 1 / d 2 / r 3 4 1", api.True},
		{outerFalse, "proof false / a 1 / a 2 / d 1 / d 2 / r 3 4 2", api.False},
		{fourFalse, "proof false / a 1 / a 2 / a 3 / a 4 / r 1 2 2 / r 3 4 2 / r 5 6 1", api.False},
		{"a 1 / a 2 / c 1 -2 / c -1 2", "proof false / a 2 / d 1", api.False},
		{parityTrue, "proof true / c 1 2 -3 / d 1 / c 1 -2 3 / d 3 / r 2 4 2 / c -1 2 3 / d 6 / c -1 -2 -3 / d 8 / r 7 9 2 / r 5 10 1", api.True},
		{threeTrue, "proof true / c 1 2 3 / d 1 / c 1 -2 -3 / d 3 / r 2 4 2 / d 5", api.True},
		{threeFalse, "proof false / a 1 / a 2 / r 1 2 3 / d 3 / a 3 / a 4 / r 5 6 3 / d 7 / r 4 8 1", api.False},
		{pivotsFalse, "proof false / a 1 / a 3 / r 1 2 2 / d 3", api.False},
		// Steps that nothing needs, that stand twice, and that have no literals on the way.
		{"c / c 1", "proof false / a 1 / a 2 / a 2 / d 1 / d 4", api.False},
		{"c 8 7 / c -8 / c -7", "proof false / a 1 / a 2 / r 1 2 8 / a 3 / r 3 4 7", api.False},
	} {
		wantCheck(t, lines(c.formula), lines(c.proof), c.kind, api.OK, 0)
		newGame(t, lines(c.formula)).wantWon(t, lines(c.proof), c.kind)
	}
}

// wrong is a proof that is refused, and the line that is told.
type wrong struct {
	formula, proof string
	line           int
}

func wantWrong(t *testing.T, list []wrong) {
	t.Helper()
	for _, c := range list {
		wantCheck(t, lines(c.formula), lines(c.proof), 0, api.ErrProof, c.line)
	}
}

func TestCheckRefusesFirstLines(t *testing.T) {
	var list []wrong
	for _, first := range []string{"", " ", "proof", "proof ", "proof unknown", "proof  true", " proof true", "proof true ", "proof true true", "proof\ttrue", "proof true\r", "Proof true", "proof True", "prooftrue", "true", "c", "a 1", "proof falsetrue", "proof 1", "proof true false"} {
		list = append(list, wrong{"c 1", first, 1}, wrong{"c 1", first + " / c 1 / d 1", 1}, wrong{"c", first + " / a 1", 1})
	}
	list = append(list, wrong{"c", "proof false / proof false / a 1", 2}, wrong{"c", "proof false / a 1 / proof false", 3}, wrong{"c", "a 1 / proof false", 1})
	wantWrong(t, list)
}

func TestCheckRefusesAxioms(t *testing.T) {
	wantWrong(t, []wrong{
		{outerFalse, "proof false / a", 2}, {outerFalse, "proof false / a 0", 2}, {outerFalse, "proof false / a 3", 2}, {outerFalse, "proof false / a -1", 2}, {outerFalse, "proof false / a 01", 2}, {outerFalse, "proof false / a 00", 2}, {outerFalse, "proof false / a +1", 2}, {outerFalse, "proof false / a 1 2", 2}, {outerFalse, "proof false / a x", 2}, {outerFalse, "proof false / a 1x", 2}, {outerFalse, "proof false / a 18446744073709551617", 2}, {outerFalse, "proof false / a 4294967297", 2},
		{outerFalse, "proof false / a 1 / a 2 / a 3", 4},
		// Steps of the other proofs.
		{"c", "proof true / a 1", 2}, {innerTrue, "proof true / a 1", 2}, {innerTrue, "proof true / c 1 -2 / a 1", 3},
		// Clauses with both literals of a variable, and formulas without clauses.
		{"c 1 -1", "proof false / a 1", 2}, {"c 1 / c 2 -1 1 / c -1", "proof false / a 1 / a 2 / a 3 / r 1 3 1", 3}, {"a 8 / c -8 8", "proof false / a 1 / d 1", 2},
		{"e 1", "proof false / a 1", 2},
	})
}

func TestCheckRefusesCubes(t *testing.T) {
	wantWrong(t, []wrong{
		{innerTrue, "proof true / c", 2}, {innerTrue, "proof true / c 1", 2}, {innerTrue, "proof true / c 2", 2}, {innerTrue, "proof true / c 1 2", 2}, {innerTrue, "proof true / c -1 -2", 2}, {innerTrue, "proof true / c 1 -2 / c -1 2 / c 1 2", 4},
		{"c", "proof true / c", 2}, {"e 1 / c 1 / c", "proof true / c 1", 2},
		// Literals that are not rising.
		{innerTrue, "proof true / c -2 1", 2}, {innerTrue, "proof true / c 2 -1", 2}, {innerTrue, "proof true / c 1 1 -2", 2}, {innerTrue, "proof true / c 1 -2 -2", 2}, {innerTrue, "proof true / c 1 -1", 2}, {innerTrue, "proof true / c -1 1 2", 2}, {"e 1 2", "proof true / c 2 -2", 2}, {"e 2 1", "proof true / c 2 1", 2}, {"e 1 2 3", "proof true / c 1 3 2", 2},
		// Variables that the formula has not.
		{innerTrue, "proof true / c 1 -2 3", 2}, {innerTrue, "proof true / c 1 -2 -8", 2}, {"e 2 / c 2", "proof true / c 1 2", 2}, {"e 2 / c 2", "proof true / c -1 2 / d 1", 2},
		// Words that are no literals.
		{innerTrue, "proof true / c 1 -02", 2}, {innerTrue, "proof true / c 01 -2", 2}, {innerTrue, "proof true / c 0", 2}, {innerTrue, "proof true / c 0 1 -2", 2}, {innerTrue, "proof true / c -0 1 -2", 2}, {innerTrue, "proof true / c 1 -2 9", 2}, {innerTrue, "proof true / c 1 --2", 2}, {innerTrue, "proof true / c 1 - 2", 2}, {innerTrue, "proof true / c 1 -2 x", 2}, {innerTrue, "proof true / c +1 -2", 2}, {innerTrue, "proof true / c 1 -2 10", 2}, {"e 1 / c 1", "proof true / c 18446744073709551617", 2},
		// Steps of the other proofs.
		{outerFalse, "proof false / c 1", 2}, {outerFalse, "proof false / c", 2}, {"e 1 / c 1", "proof false / c 1 / d 1", 2}, {"e 1", "proof false / c", 2}, {outerFalse, "proof false / a 1 / c 1 -2", 3},
	})
}

func TestCheckTakesCubes(t *testing.T) {
	for _, c := range []wrong{
		{"e 2 1", "proof true / c 1 2 / d 1", 0}, {"e 2 1", "proof true / c / d 1", 0}, {"e 8 / c 7 -7", "proof true / c -7 -8 / d 1", 0},
		{"c 3 / c -5", "proof true / c 3 -5 / d 1", 0}, {"c 3 -5 / c -5 5 / c -5 1", "proof true / c -5 / d 1", 0},
		{"e 1 2 3 4 5 6 7 8 / c 1 2 3 4 5 6 7 8", "proof true / c -1 -2 -3 -4 -5 -6 -7 8 / d 1", 0},
	} {
		wantCheck(t, lines(c.formula), lines(c.proof), api.True, api.OK, c.line)
	}
}

func TestCheckRefusesResolvents(t *testing.T) {
	const two = "proof false / a 1 / a 2 / d 1 / d 2 / "
	const three = "proof true / c 1 -2 / d 1 / c -1 2 / d 3 / "
	wantWrong(t, []wrong{
		{outerFalse, two + "r", 6}, {outerFalse, two + "r 3", 6}, {outerFalse, two + "r 3 4", 6}, {outerFalse, two + "r 3 4 2 2", 6}, {outerFalse, two + "r 03 4 2", 6}, {outerFalse, two + "r 3 04 2", 6}, {outerFalse, two + "r 3 4 02", 6}, {outerFalse, two + "r 3 4 -2", 6}, {outerFalse, two + "r 4 3 -2", 6}, {outerFalse, two + "r 3 4 x", 6}, {outerFalse, two + "r 3 4 9", 6}, {outerFalse, two + "r 3 4 8", 6},
		// Steps that are not ahead.
		{outerFalse, two + "r 0 4 2", 6}, {outerFalse, two + "r 3 0 2", 6}, {outerFalse, two + "r 5 4 2", 6}, {outerFalse, two + "r 3 5 2", 6}, {outerFalse, two + "r 3 6 2", 6}, {outerFalse, two + "r 9 4 2", 6}, {outerFalse, two + "r 3 18446744073709551620 2", 6}, {outerFalse, "proof false / r 1 1 2", 2}, {outerFalse, "proof false / r 2 3 2 / a 1 / a 2", 2},
		// Steps without the literals, or with them the other way round.
		{outerFalse, two + "r 4 3 2", 6}, {outerFalse, two + "r 3 3 2", 6}, {outerFalse, two + "r 4 4 2", 6}, {outerFalse, two + "r 3 4 1", 6}, {"c 1 / c 2 / c -1", "proof false / a 1 / a 2 / r 1 2 1", 4}, {"c 1 / c 2 / c -1", "proof false / a 1 / a 2 / r 2 1 1", 4},
		{innerTrue, three + "r 4 2 1", 6}, {innerTrue, three + "r 2 2 1", 6},
		// Variables of the other kind.
		{pivotsFalse, "proof false / a 1 / a 2 / r 1 2 1", 4}, {"e 1 / a 2 / c 1 2 / c -1 2", "proof true / c 1 2 / c -1 2 / r 1 2 1", 4}, {"e 1 / a 2", "proof true / c 1 / c -1 / r 1 2 1", 4},
		// Both literals of a variable in what comes out.
		{outerFalse, "proof false / a 1 / a 2 / r 1 2 2", 4}, {fourFalse, "proof false / a 2 / a 3 / r 2 1 2", 4}, {fourFalse, "proof false / a 1 / a 4 / r 1 2 1", 4}, {fourFalse, "proof false / a 1 / a 4 / r 1 2 2", 4}, {innerTrue, "proof true / c 1 -2 / c -1 2 / r 1 2 1", 4}, {parityTrue, "proof true / c 1 2 -3 / d 1 / c -1 -2 -3 / d 3 / r 2 4 1", 6},
	})
}

func TestCheckRefusesReducts(t *testing.T) {
	wantWrong(t, []wrong{
		{outerFalse, "proof false / a 1 / d", 3}, {outerFalse, "proof false / a 1 / d 1 1", 3}, {outerFalse, "proof false / a 1 / d 01", 3}, {outerFalse, "proof false / a 1 / d 0", 3}, {outerFalse, "proof false / a 1 / d -1", 3}, {outerFalse, "proof false / a 1 / d x", 3},
		// Steps that are not ahead.
		{outerFalse, "proof false / d 1", 2}, {outerFalse, "proof false / a 1 / d 2", 3}, {outerFalse, "proof false / a 1 / d 3 / a 2", 3}, {outerFalse, "proof false / a 1 / d 18446744073709551617", 3}, {innerTrue, "proof true / d 1", 2}, {innerTrue, "proof true / c 1 -2 / d 2", 3},
		// Literals that are not reduced, which the last step then has.
		{pivotsFalse, "proof false / a 1 / d 1", 4}, {"e 1 / c 1", "proof false / a 1 / d 1", 4}, {"a 1 / e 2 / a 3 / c 1 2 3", "proof false / a 1 / d 1 / d 2", 5}, {"a 1", "proof true / c 1 / d 1", 4}, {"e 1 / a 2 / e 3", "proof true / c 1 2 3 / d 1", 4},
	})
}

func TestCheckRefusesOtherLines(t *testing.T) {
	var list []wrong
	for _, line := range []string{"", " ", "x", "x 1", "e 1", "1", "a  1", " a 1", "a 1 ", "d  1", "d 1 ", " d 1", "r 1  1 1", "A 1", "D 1", "aa 1", "a1", "d1", "a\t1", "a 1\r", "a 1\x00", "# a 1", "aa", "cd 1"} {
		list = append(list, wrong{"c", "proof false / " + line, 2}, wrong{"c", "proof false / a 1 / d 1 / " + line, 4}, wrong{"c", "proof false / a 1 / " + line + " / a 1 / x", 3})
	}
	for _, line := range []string{"", " ", "c ", " c", "c  1", "c 1 ", "c 1  -2", "C 1", "c1", "c\t1", "c 1\r", "cc", "e 1"} {
		list = append(list, wrong{"e 1 2", "proof true / " + line, 2}, wrong{"e 1 2", "proof true / c / " + line + " / c", 3})
	}
	wantWrong(t, list)
}

func TestCheckWantsAnEnd(t *testing.T) {
	for _, c := range []struct {
		formula, proof string
		line           int
	}{
		// No line, no step, and a last step that has literals.
		{innerTrue, "", 1}, {"c", "", 1}, {innerTrue, "proof true\n", 2}, {"c", "proof false\n", 2}, {innerTrue, "proof true\nc 1 -2\n", 3}, {innerTrue, "proof true\nc 1 -2\nc -1 2\nd 1\nd 2\nr 3 4 1\nd 4\n", 8}, {"c / c 1", "proof false\na 1\na 2\n", 4}, {"c / c 1", "proof false\na 1\nd 1\na 2\nd 3\n", 6},
		// A last line that is not ended, whatever it is.
		{"c", "proof false", 1}, {"c", "x", 1}, {"c", " ", 1}, {"c", "proof false\na 1", 2}, {"c", "proof false\na 1\na 1", 3}, {"c", "proof false\na 1\n ", 3}, {"c", "proof false\na 1\nx", 3}, {"c", "proof false\na 1\n\x00", 3}, {"c 1", "proof true\nc 1\nd 1", 3},
		// A line that is none ahead of it is told.
		{"c", "proof false\na 2\na 1", 2}, {"c", "\nproof false", 1}, {"c", "proof false\n\n", 2}, {"c", "proof false\na 1\n\n", 3},
	} {
		wantCheck(t, lines(c.formula), c.proof, 0, api.ErrProof, c.line)
	}
	wantCheck(t, "", "", 0, api.ErrProof, 1)
	wantCheck(t, "c\n", "proof false\r\na 1\r\n", 0, api.ErrProof, 1)
}

func TestCheckSteps(t *testing.T) {
	wantCheck(t, "c\n", "proof false\n"+strings.Repeat("a 1\n", 9000), api.False, api.OK, 0)
	wantCheck(t, "c\n", "proof false\n"+strings.Repeat("a 1\n", 9001), 0, api.ErrProof, 9002)
	wantCheck(t, "c\n", "proof false\n"+strings.Repeat("a 1\n", 9001)+"x\n", 0, api.ErrProof, 9002)
	wantCheck(t, "c\n", "proof false\n"+strings.Repeat("a 1\n", 8999)+"x\na 1\n", 0, api.ErrProof, 9001)
	wantCheck(t, "c\n", "proof false\n"+strings.Repeat("a 1\n", 9000)+"a 1", 0, api.ErrProof, 9002)
	wantCheck(t, "", "proof true\n"+strings.Repeat("c\n", 9000), api.True, api.OK, 0)
	wantCheck(t, "", "proof true\n"+strings.Repeat("c\n", 9001), 0, api.ErrProof, 9002)
	// Steps far behind are steps ahead too.
	far := "proof false\n" + strings.Repeat("a 1\na 2\n", 4499)
	wantCheck(t, "c 1\nc -1\n", far+"r 1 8998 1\nd 8999\n", api.False, api.OK, 0)
	wantCheck(t, "c 1\nc -1\n", far+"r 8997 2 1\nd 8999\n", api.False, api.OK, 0)
	wantCheck(t, "c 1\nc -1\n", far+"r 8997 8999 1\nd 8999\n", 0, api.ErrProof, 9000)
	wantCheck(t, "c 1\nc -1\n", far+"r 8997 2 1\nd 9000\n", 0, api.ErrProof, 9001)
}

func TestCheckBytes(t *testing.T) {
	// No proof has as many bytes as may be; what is wrong with a text of just as many is told.
	good := "proof false\na 1\n"
	for _, c := range []struct {
		head string
		fill string
		line int
	}{{"", "x", 1}, {good, "x", 3}, {good, " ", 3}, {good, "\n", 3}, {"", "\n", 1}, {"", "\x00", 1}, {good + "a ", "1", 3}, {good + "a ", "0", 3}, {good + "c", " 1", 3}, {good + "d 1\n", "a 1\n", 9002}} {
		full := (c.head + strings.Repeat(c.fill, 1<<18))[:1<<18]
		wantCheck(t, "c\n", full, 0, api.ErrProof, c.line)
		wantCheck(t, "c\n", full+c.fill[:1], 0, api.ErrLong, 0)
	}
	wantCheck(t, "c\n", strings.Repeat("x", 1<<22), 0, api.ErrLong, 0)
	// The longest proof that there is.
	cube := "c -1 -2 -3 -4 -5 -6 -7 -8\n"
	wantCheck(t, "e 1 2 3 4 5 6 7 8\n", "proof true\n"+strings.Repeat(cube, 8999)+"d 1\n", api.True, api.OK, 0)
}

func TestCheckHangsOnItsFormulaAlone(t *testing.T) {
	const good = "proof false\na 1\na 2\nr 1 2 1\n"
	first := wantLoad(t, "c 1\nc -1\n", api.OK, 0)
	second := wantLoad(t, "c 1 2\nc -1\n", api.OK, 0)
	for i := 0; i < 3; i++ {
		if k, e, l := first.Check(good); k != api.False || e != api.OK || l != 0 {
			t.Errorf("Check = %d, %d, %d", k, e, l)
		}
		if k, e, l := second.Check(good); k != 0 || e != api.ErrProof || l != 5 {
			t.Errorf("Check of another formula = %d, %d, %d", k, e, l)
		}
		if k, e, l := first.Check(good + "x\n"); k != 0 || e != api.ErrProof || l != 5 {
			t.Errorf("Check of a wrong text = %d, %d, %d", k, e, l)
		}
		for _, b := range first.Blocks() {
			b[0] = 8
		}
	}
}

func TestCheckOfNoFormula(t *testing.T) {
	var none *duel.Formula
	for _, f := range []*duel.Formula{none, new(duel.Formula)} {
		if k, e, l := f.Check("proof true\nc\n"); k != api.True || e != api.OK || l != 0 {
			t.Errorf("Check = %d, %d, %d, want what it is of the empty text", k, e, l)
		}
		if k, e, l := f.Check("proof false\na 1\n"); k != 0 || e != api.ErrProof || l != 2 {
			t.Errorf("Check = %d, %d, %d, want what it is of the empty text", k, e, l)
		}
	}
}
