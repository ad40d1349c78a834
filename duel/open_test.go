package duel_test

import (
	"fmt"
	"math"
	"math/rand"
	"reflect"
	"strings"
	"testing"

	"duel/api"
	"duel/duel"
)

// side is a block of the prefix, as words such as e1 or a2 tell it.
type side struct {
	vars []int
	kind byte
}

func (g *game) sides() []side {
	var list []side
	for _, word := range g.prefix {
		if n := len(list); n == 0 || list[n-1].kind != word[0] {
			list = append(list, side{kind: word[0]})
		}
		last := &list[len(list)-1]
		last.vars = append(last.vars, int(word[1]-'0'))
	}
	return list
}

// loser tells the side that plays against a proof of this kind.
func loser(kind int) byte {
	if kind == api.True {
		return 'a'
	}
	return 'e'
}

// opened opens a duel and plays these moves.
func (g *game) opened(t *testing.T, proof string, moves []int) *duel.Duel {
	t.Helper()
	f := wantLoad(t, g.text, api.OK, 0)
	d, errno, line := f.Open(proof)
	if d == nil || errno != api.OK || line != 0 {
		t.Fatalf("of %q: Open(%q) = %v, %d, line %d", g.text, proof, d, errno, line)
	}
	for i, m := range moves {
		if e := d.Move(m); e != api.OK {
			t.Fatalf("of %q: the duel on %q: Move(%d) behind %v = %d", g.text, proof, m, moves[:i], e)
		}
	}
	return d
}

// wantWon plays all duels on a proof, and tells how many there are.
func (g *game) wantWon(t *testing.T, proof string, kind int) int {
	t.Helper()
	return g.wantWonBehind(t, proof, kind, nil, make([]int, 8))
}

// wantWonBehind is wantWon behind some moves; known has the values up to the last of them. Each time a duel of its own is opened, so that what is played is seen to hang on the moves alone.
func (g *game) wantWonBehind(t *testing.T, proof string, kind int, moves, known []int) int {
	t.Helper()
	d := g.opened(t, proof, moves)
	turn := g.wantPlayed(t, d, kind, moves, known)
	if t.Failed() {
		return 0
	}
	values := d.Values()
	blocks := g.sides()
	if turn == len(blocks) {
		truth := map[int]bool{}
		for i, v := range values {
			truth[i+1] = v == 1
		}
		if g.satisfied(truth) != (kind == api.True) {
			t.Errorf("of %q: the duel on %q is lost with %v: %v", g.text, proof, moves, values)
		}
		wantNoMove(t, d, api.ErrOver, 0, 1, 2, -1, math.MinInt, math.MaxInt)
		return 1
	}
	block := blocks[turn].vars
	size := 1 << len(block)
	wantNoMove(t, d, api.ErrBadMove, -1, -size, size, size+1, 2*size, 1<<8, 1<<32, 1<<32+1, math.MinInt, math.MinInt+1, math.MaxInt)
	count := 0
	for m := range size {
		for i, v := range block {
			values[v-1] = 2*(m>>i&1) - 1
		}
		count += g.wantWonBehind(t, proof, kind, append(moves[:len(moves):len(moves)], m), values)
	}
	return count
}

// wantPlayed tests what P8 says of a duel behind some moves, and tells the block in turn.
func (g *game) wantPlayed(t *testing.T, d *duel.Duel, kind int, moves, known []int) int {
	t.Helper()
	want, left := 0, len(moves)
	blocks := g.sides()
	for want < len(blocks) && (blocks[want].kind != loser(kind) || left > 0) {
		if blocks[want].kind == loser(kind) {
			left--
		}
		want++
	}
	values := d.Values()
	if turn := d.Turn(); turn != want || len(values) != 8 {
		t.Errorf("of %q behind %v: turn %d, want %d, values %v", g.text, moves, turn, want, values)
		return want
	}
	played := map[int]bool{}
	for _, b := range blocks[:want] {
		for _, v := range b.vars {
			played[v] = true
		}
	}
	for i, v := range values {
		if v*v > 1 || (v != 0) != played[i+1] || known[i] != 0 && known[i] != v {
			t.Errorf("of %q behind %v: turn %d, values %v, where %v were", g.text, moves, want, values, known)
		}
	}
	return want
}

// wantNoMove tests that moves are refused, and that nothing changes.
func wantNoMove(t *testing.T, d *duel.Duel, errno api.Errno, moves ...int) {
	t.Helper()
	turn, values := d.Turn(), d.Values()
	for _, m := range moves {
		if e := d.Move(m); e != errno {
			t.Errorf("Move(%d) = %d, want %d", m, e, errno)
		}
		if now := d.Values(); d.Turn() != turn || !reflect.DeepEqual(now, values) {
			t.Errorf("Move(%d) is refused, but the turn is %d and the values %v, where they were %d and %v", m, d.Turn(), now, turn, values)
		}
	}
}

func TestDuelsOfTheDocument(t *testing.T) {
	g := newGame(t, lines(innerTrue))
	const proof = "proof true\nc 1 -2\nc -1 2\nd 1\nd 2\nr 3 4 1\n"
	for _, c := range []struct {
		moves, values []int
		turn          int
	}{
		{nil, []int{0, 0, 0, 0, 0, 0, 0, 0}, 0},
		{[]int{1}, []int{1, -1, 0, 0, 0, 0, 0, 0}, 2},
		{[]int{0}, []int{-1, 1, 0, 0, 0, 0, 0, 0}, 2},
	} {
		d := g.opened(t, proof, c.moves)
		if v := d.Values(); d.Turn() != c.turn || !reflect.DeepEqual(v, c.values) {
			t.Errorf("behind %v: turn %d, values %v, want %d, %v", c.moves, d.Turn(), v, c.turn, c.values)
		}
	}
	wantNoMove(t, g.opened(t, proof, nil), api.ErrBadMove, 2, -1)
	wantNoMove(t, g.opened(t, proof, []int{1}), api.ErrOver, 0, 1, 2, -1)
	d := newGame(t, "c\n").opened(t, "proof false\na 1\n", nil)
	if v := d.Values(); d.Turn() != 0 || !reflect.DeepEqual(v, make([]int, 8)) {
		t.Errorf("without blocks: turn %d, values %v", d.Turn(), v)
	}
	wantNoMove(t, d, api.ErrOver, 0, 1, -1)
}

// Duels in which no other value of the winning side wins.
func TestForcedMoves(t *testing.T) {
	for _, c := range []struct {
		formula, proof string
		moves, values  []int
		turn           int
	}{
		// The winning side plays at once, and all, if the other one has nothing.
		{"a 1 / c 1", "proof false / a 1 / d 1", nil, []int{-1, 0, 0, 0, 0, 0, 0, 0}, 1},
		{"a 8 / c -8", "proof false / a 1 / d 1", nil, []int{0, 0, 0, 0, 0, 0, 0, 1}, 1},
		{"e 3 / c -3 / c 7", "proof true / c -3 7 / d 1", nil, []int{0, 0, -1, 0, 0, 0, 1, 0}, 1},
		{"a 2 / e 5 / c 2", "proof false / a 1 / d 1", nil, []int{0, -1, 0, 0, 0, 0, 0, 0}, 1},
		{"a 4 / e 2 / a 7 / c -4 7", "proof false / a 1 / d 1", nil, []int{0, 0, 0, 1, 0, 0, 0, 0}, 1},
		{"a 4 / e 2 / a 7 / c -4 7", "proof false / a 1 / d 1", []int{1}, []int{0, 1, 0, 1, 0, 0, -1, 0}, 3},
		// It sees what the other side chose.
		{outerFalse, "proof false / a 1 / a 2 / d 1 / d 2 / r 3 4 2", []int{0}, []int{-1, -1, 0, 0, 0, 0, 0, 0}, 2},
		{outerFalse, "proof false / a 1 / a 2 / d 1 / d 2 / r 3 4 2", []int{1}, []int{1, 1, 0, 0, 0, 0, 0, 0}, 2},
		{"e 1 / a 2 / e 3 / c -1 2 3 / c -3 / c 1 -2", "proof false / a 3 / d 1 / a 1 / a 2 / r 3 4 3 / d 5 / r 2 6 1", []int{0}, []int{-1, 1, 0, 0, 0, 0, 0, 0}, 2},
		{"e 1 / a 2 / e 3 / c -1 2 3 / c -3 / c 1 -2", "proof false / a 3 / d 1 / a 1 / a 2 / r 3 4 3 / d 5 / r 2 6 1", []int{1}, []int{1, -1, 0, 0, 0, 0, 0, 0}, 2},
		// Both reductions speak of 2 behind the first of these moves, and the one that stands ahead is right.
		{"e 1 / a 2 / e 3 / c 1 2 / c -1 -2 3 / c -3", "proof false / a 1 / d 1 / a 2 / a 3 / r 3 4 3 / r 2 5 1 / d 6", []int{0}, []int{-1, -1, 0, 0, 0, 0, 0, 0}, 2},
		{"e 1 / a 2 / e 3 / c 1 2 / c -1 -2 3 / c -3", "proof false / a 1 / d 1 / a 2 / a 3 / r 3 4 3 / r 2 5 1 / d 6", []int{1}, []int{1, 1, 0, 0, 0, 0, 0, 0}, 2},
		{"a 1 / e 2 / c -1 2 / c 1 -2", "proof true / c 1 2 / d 1 / c -1 -2 / r 2 3 1 / d 4", []int{1}, []int{1, 1, 0, 0, 0, 0, 0, 0}, 2},
		{"a 1 / e 2 / c -1 2 / c 1 -2", "proof true / c 1 2 / d 1 / c -1 -2 / r 2 3 1 / d 4", []int{0}, []int{-1, -1, 0, 0, 0, 0, 0, 0}, 2},
	} {
		d := newGame(t, lines(c.formula)).opened(t, lines(c.proof), c.moves)
		if v := d.Values(); d.Turn() != c.turn || !reflect.DeepEqual(v, c.values) {
			t.Errorf("of %q: %q behind %v: turn %d, values %v, want %d, %v", c.formula, c.proof, c.moves, d.Turn(), v, c.turn, c.values)
		}
	}
}

// The i-th variable, in the order of Blocks, has bit i, whatever its number.
func TestBitsOfMoves(t *testing.T) {
	for _, c := range []struct {
		formula, proof string
		block          []int
	}{
		{"e 2 1 / c 5 -3 / c", "proof false / a 2", []int{3, 5, 2, 1}},
		{"e 8 7 6 5 4 3 2 1 / c", "proof false / a 1", []int{8, 7, 6, 5, 4, 3, 2, 1}},
		{"c / c 8 7 6 5 4 3 2 1", "proof false / a 1", []int{1, 2, 3, 4, 5, 6, 7, 8}},
		{"a 7 / a 6 5 / a 8", "proof true / c", []int{7, 6, 5, 8}},
		{"a 4", "proof true / c", []int{4}},
		{"e 3 / a 6 2", "proof true / c", []int{6, 2}},
	} {
		g := newGame(t, lines(c.formula))
		for bits := range 1 << len(c.block) {
			values := g.opened(t, lines(c.proof), []int{bits}).Values()
			for i, v := range c.block {
				if want := 2*(bits>>i&1) - 1; values[v-1] != want {
					t.Errorf("of %q behind Move(%d): variable %d is %d, want %d", c.formula, bits, v, values[v-1], want)
				}
			}
		}
		wantNoMove(t, g.opened(t, lines(c.proof), nil), api.ErrBadMove, 1<<len(c.block), -1, math.MaxInt, math.MinInt)
	}
}

// drafted is a proof while it is written.
type drafted struct {
	*game
	pivots bool
	text   string
	steps  []map[int]bool
}

func (g *game) draft(pivots bool) *drafted {
	return &drafted{game: g, pivots: pivots, text: fmt.Sprintf("proof %t\n", pivots)}
}

// add tells the number of the new step, or 0 if the line is none.
func (p *drafted) add(line string) int {
	set, ok := p.step(line, p.steps, p.pivots)
	if !ok {
		return 0
	}
	p.text += line + "\n"
	p.steps = append(p.steps, set)
	return len(p.steps)
}

// idle adds some steps that are drawn.
func (c chance) idle(p *drafted, most int) {
	for i := c.Intn(most + 1); i > 0; i-- {
		p.add(c.line(p.game, p.steps, p.pivots))
	}
}

// leaf draws a step of the formula that holds when all variables have values.
func (c chance) leaf(p *drafted, values map[int]bool) int {
	if !p.pivots {
		for _, k := range c.Perm(len(p.clauses)) {
			one := &game{clauses: p.clauses[k : k+1]}
			if !one.satisfied(values) {
				return p.add(fmt.Sprintf("a %d", k+1))
			}
		}
	}
	for tries := 0; tries < 8; tries++ {
		line := "c"
		for v := 1; v <= 8; v++ {
			if value, has := values[v]; has && (tries == 7 || c.Intn(5) > 0) {
				line += fmt.Sprintf(" %s%d", map[bool]string{false: "-"}[value], v)
			}
		}
		if step := p.add(line); step > 0 {
			return step
		}
	}
	return 0
}

// tree draws moves of the winning side that win, and writes the proof that they do: values has those of the outermost variables. The moves of different branches need not agree, and steps that nothing needs stand between.
func (c chance) tree(p *drafted, values map[int]bool, depth int) int {
	if depth == len(p.prefix) {
		return c.leaf(p, values)
	}
	c.idle(p, 2)
	v := int(p.prefix[depth][1] - '0')
	value := c.Intn(2) == 0
	if (p.prefix[depth][0] == 'a') != p.pivots {
		values[v] = value
		if p.truth(values, depth+1) != p.pivots {
			values[v] = !value
		}
		step := c.tree(p, values, depth+1)
		delete(values, v)
		return c.reduced(p, step)
	}
	values[v] = value
	first := c.tree(p, values, depth+1)
	values[v] = !value
	second := c.tree(p, values, depth+1)
	delete(values, v)
	return c.joined(p, first, second, v)
}

// reduced reduces a step, or leaves that to later steps.
func (c chance) reduced(p *drafted, step int) int {
	if c.Intn(2) == 0 {
		return step
	}
	return p.add(fmt.Sprintf("d %d", step))
}

// joined resolves two steps, which are reduced first if they must be.
func (c chance) joined(p *drafted, first, second, v int) int {
	for range 2 {
		for _, step := range []int{first, second} {
			if set := p.steps[step-1]; !set[v] && !set[-v] {
				return step
			}
		}
		if p.steps[second-1][v] {
			first, second = second, first
		}
		if step := p.add(fmt.Sprintf("r %d %d %d", first, second, v)); step > 0 {
			return step
		}
		first, second = p.add(fmt.Sprintf("d %d", first)), p.add(fmt.Sprintf("d %d", second))
	}
	return 0
}

func TestDuelsOnDrawnTrees(t *testing.T) {
	c := chance{rand.New(rand.NewSource(4))}
	seen := map[int]int{}
	for i := 0; i < 2000 && !t.Failed(); i++ {
		g := newGame(t, c.large())
		kind := g.kind()
		p := g.draft(kind == api.True)
		p.add(fmt.Sprintf("d %d", c.tree(p, map[int]bool{}, 0)))
		if got := g.wantSame(t, p.text); got != kind {
			t.Errorf("of %q: %q proves %d, want %d", g.text, p.text, got, kind)
		}
		if strings.Contains(p.text, "\nd ") && len(g.sides()) > 2 {
			seen[kind]++
		}
	}
	if seen[api.False] < 100 || seen[api.True] < 100 {
		t.Errorf("how many proofs have moves on both sides: %v", seen)
	}
}

// mixed lays drawn steps between those of a proof.
func (c chance) mixed(g *game, proof string) string {
	rows := strings.Split(strings.TrimSuffix(proof, "\n"), "\n")
	p := g.draft(rows[0] == "proof true")
	numbers := []int{0}
	for _, row := range rows[1:] {
		c.idle(p, 6)
		var i, j, v int
		if n, _ := fmt.Sscanf(row, "r %d %d %d", &i, &j, &v); n == 3 {
			row = fmt.Sprintf("r %d %d %d", numbers[i], numbers[j], v)
		}
		if n, _ := fmt.Sscanf(row, "d %d", &i); n == 1 {
			row = fmt.Sprintf("d %d", numbers[i])
		}
		numbers = append(numbers, p.add(row))
	}
	return p.text
}

func TestDuelsOnMixedProofs(t *testing.T) {
	c := chance{rand.New(rand.NewSource(5))}
	seen := map[int]int{}
	for i := 0; i < 600 && !t.Failed(); i++ {
		g := newGame(t, c.large())
		v := g.solved(t, c.Intn(9))
		proof := c.mixed(g, v.Proof)
		if got := g.wantSame(t, proof); got != v.Kind {
			t.Errorf("of %q: %q proves %d, want %d", g.text, proof, got, v.Kind)
		}
		seen[v.Kind]++
	}
	if seen[api.False] < 100 || seen[api.True] < 100 {
		t.Errorf("how often which verdict: %v", seen)
	}
}

// P9 asks nothing of where a proof comes from: its text, brought to another Formula, is played the same.
func TestDuelsHangOnTheTextAlone(t *testing.T) {
	g := newGame(t, lines(threeTrue))
	f := wantLoad(t, g.text, api.OK, 0)
	v, _ := f.Solve(0, 8)
	proof := strings.Clone(v.Proof)
	for moves := range 2 {
		d, _, _ := f.Open(v.Proof)
		f.Solve(0, 0)
		e := g.opened(t, proof, nil)
		d.Move(moves)
		e.Move(moves)
		if first, second := d.Values(), e.Values(); d.Turn() != e.Turn() || !reflect.DeepEqual(first, second) {
			t.Errorf("behind Move(%d): turn %d, values %v, but %d, %v", moves, d.Turn(), first, e.Turn(), second)
		}
	}
}

func TestDuelsDoNotTouchEachOther(t *testing.T) {
	f := wantLoad(t, lines("a 1 / e 2 / a 3 / e 4 / c 1 2 / c -1 -2 / c 3 4 / c -3 -4"), api.OK, 0)
	v, _ := f.Solve(0, 64)
	var duels []*duel.Duel
	for range 4 {
		d, _, _ := f.Open(v.Proof)
		duels = append(duels, d)
	}
	f.Open("proof true\n")
	for i, d := range duels {
		d.Move(i % 2)
		for _, b := range f.Blocks() {
			b[0] = 8
		}
	}
	*f = duel.Formula{}
	for i, d := range duels {
		d.Move(i / 2)
	}
	for i, d := range duels {
		first, second := 2*(i%2)-1, 2*(i/2)-1
		want := []int{first, -first, second, -second, 0, 0, 0, 0}
		if values := d.Values(); d.Turn() != 4 || !reflect.DeepEqual(values, want) {
			t.Errorf("duel %d: turn %d, values %v, want %v", i, d.Turn(), values, want)
		}
	}
}

func TestValuesAreTheCallers(t *testing.T) {
	g := newGame(t, lines("e 7 / a 1 / e 2 / a 3 / e 4 / c 1 2 / c -1 -2 / c 3 4 / c -3 -4"))
	proof := g.solved(t, 64).Proof
	for _, moves := range [][]int{nil, {1}, {0, 1}} {
		d := g.opened(t, proof, moves)
		want := d.Values()
		first, second := d.Values(), d.Values()
		whole := first[:cap(first)]
		for i := range whole {
			whole[i] = 99
		}
		first = append(first, 98)
		for _, values := range [][]int{second, d.Values(), g.opened(t, proof, moves).Values()} {
			if !reflect.DeepEqual(values, want) {
				t.Errorf("values %v, another answer written into, want %v", values, want)
			}
		}
		if len(moves) < 2 {
			d.Move(1)
			e := g.opened(t, proof, append(moves[:len(moves):len(moves)], 1))
			if a, b := d.Values(), e.Values(); !reflect.DeepEqual(a, b) {
				t.Errorf("a move later the values are %v, want %v", a, b)
			}
		}
	}
}

// A duel on as many steps as there may be.
func TestDuelOfManySteps(t *testing.T) {
	g := newGame(t, lines("e 1 / a 2 / e 3 / a 4 / c 1 2 / c -1 -2 3 / c -3 4 / c 3 1 -4"))
	proof := "proof false\na 4\nd 1\na 3\nd 3\n" + strings.Repeat("d 1\n", 8990) + "a 2\nr 8995 4 3\nd 8996\na 1\nd 8998\nr 8999 8997 1\n"
	if n := strings.Count(proof, "\n"); n != 9001 {
		t.Fatalf("the proof has %d lines", n)
	}
	if kind := g.wantSame(t, proof); kind != api.False {
		t.Errorf("the proof is of kind %d", kind)
	}
}

func TestOpenErrors(t *testing.T) {
	f := wantLoad(t, lines(innerTrue), api.OK, 0)
	for _, c := range []struct {
		proof string
		errno api.Errno
		line  int
	}{
		{"", api.ErrProof, 1}, {"proof true\n", api.ErrProof, 2}, {"proof true\nc\n", api.ErrProof, 2}, {"proof true\nc 1 -2\n", api.ErrProof, 3}, {"proof true\nc 1 -2\nc -1 2\nr 1 2 1\n", api.ErrProof, 4}, {"proof false\na 1\n", api.ErrProof, 3},
		{strings.Repeat("x", 1<<18), api.ErrProof, 1}, {strings.Repeat("x", 1<<18+1), api.ErrLong, 0}, {strings.Repeat("\n", 1<<18+1), api.ErrLong, 0},
	} {
		if d, errno, line := f.Open(c.proof); d != nil || errno != c.errno || line != c.line {
			t.Errorf("Open(%.60q) = %v, %d, line %d, want %d, line %d", c.proof, d, errno, line, c.errno, c.line)
		}
	}
}

func TestOpenOfNoFormula(t *testing.T) {
	var none *duel.Formula
	for _, f := range []*duel.Formula{none, new(duel.Formula), wantLoad(t, "", api.OK, 0)} {
		d, errno, line := f.Open("proof true\nc\n")
		if d == nil || errno != api.OK || line != 0 {
			t.Fatalf("Open = %v, %d, line %d", d, errno, line)
		}
		wantNothingToPlay(t, d)
		if d, errno, line := f.Open("proof false\na 1\n"); d != nil || errno != api.ErrProof || line != 2 {
			t.Errorf("Open = %v, %d, line %d", d, errno, line)
		}
	}
}

func TestNoDuel(t *testing.T) {
	var none *duel.Duel
	wantNothingToPlay(t, none)
	wantNothingToPlay(t, new(duel.Duel))
}

func wantNothingToPlay(t *testing.T, d *duel.Duel) {
	t.Helper()
	if v := d.Values(); d.Turn() != 0 || !reflect.DeepEqual(v, make([]int, 8)) {
		t.Errorf("turn %d, values %v, want what there is without blocks", d.Turn(), v)
	}
	wantNoMove(t, d, api.ErrOver, 0, 1, -1, math.MinInt, math.MaxInt)
}
