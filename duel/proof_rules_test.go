package duel_test

import (
	"fmt"
	"math/rand"
	"regexp"
	"sort"
	"strconv"
	"strings"
	"testing"

	"duel/api"
)

// A second reading of P5, written another way, that Check is held against; and the game itself, which says whether what was proved is so.

// game is a formula with its variables from the outermost on, as words such as e1 or a2, and its clauses.
type game struct {
	text    string
	prefix  []string
	clauses []map[int]bool
}

func newGame(t *testing.T, text string) *game {
	t.Helper()
	line, _, prefix := byRules(text)
	if line != 0 {
		t.Fatalf("%q is no formula", text)
	}
	g := &game{text: text, prefix: prefix}
	for _, line := range strings.Split(text, "\n") {
		if strings.HasPrefix(line, "c") {
			g.clauses = append(g.clauses, literals(strings.Fields(line)[1:]))
		}
	}
	return g
}

func literals(list []string) map[int]bool {
	set := map[int]bool{}
	for _, word := range list {
		l, _ := strconv.Atoi(word)
		set[l] = true
	}
	return set
}

// satisfied tells whether the existential side has won.
func (g *game) satisfied(values map[int]bool) bool {
	for _, clause := range g.clauses {
		satisfied := false
		for l := range clause {
			satisfied = satisfied || values[l] || l < 0 && !values[-l]
		}
		if !satisfied {
			return false
		}
	}
	return true
}

// truth plays the game to its end both ways at each variable.
func (g *game) truth(values map[int]bool, depth int) bool {
	if depth == len(g.prefix) {
		return g.satisfied(values)
	}
	v := int(g.prefix[depth][1] - '0')
	values[v] = false
	first := g.truth(values, depth+1)
	values[v] = true
	second := g.truth(values, depth+1)
	delete(values, v)
	if g.prefix[depth][0] == 'a' {
		return first && second
	}
	return first || second
}

// place tells how far in a literal's variable is, and whether it is universal.
func (g *game) place(l int) (int, bool) {
	for i, word := range g.prefix {
		if v := int(word[1] - '0'); v == l || v == -l {
			return i, word[0] == 'a'
		}
	}
	return -1, false
}

func clashes(set map[int]bool) bool {
	for l := range set {
		if set[-l] {
			return true
		}
	}
	return false
}

const numeral = `([1-9][0-9]{0,8})`

var axiomLine = regexp.MustCompile(`^a ` + numeral + `$`)
var cubeLine = regexp.MustCompile(`^c( -?[1-8])*$`)
var resolventLine = regexp.MustCompile(`^r ` + numeral + ` ` + numeral + ` ([1-8])$`)
var reductLine = regexp.MustCompile(`^d ` + numeral + `$`)

// numbers tells what the groups of a pattern wrote.
func numbers(groups []string) []int {
	var list []int
	for _, word := range groups[1:] {
		n, _ := strconv.Atoi(word)
		list = append(list, n)
	}
	return list
}

func (g *game) cube(line string) (map[int]bool, bool) {
	list := strings.Fields(line)[1:]
	if !sort.SliceIsSorted(list, func(i, j int) bool { return strings.Trim(list[i], "-") < strings.Trim(list[j], "-") }) {
		return nil, false
	}
	set := literals(list)
	if len(set) != len(list) || clashes(set) {
		return nil, false
	}
	for l := range set {
		if place, _ := g.place(l); place < 0 {
			return nil, false
		}
	}
	for _, clause := range g.clauses {
		met := clashes(clause)
		for l := range clause {
			met = met || set[l]
		}
		if !met {
			return nil, false
		}
	}
	return set, true
}

func (g *game) resolvent(steps []map[int]bool, n []int, pivots bool) (map[int]bool, bool) {
	if n[0] > len(steps) || n[1] > len(steps) || !steps[n[0]-1][n[2]] || !steps[n[1]-1][-n[2]] {
		return nil, false
	}
	if _, universal := g.place(n[2]); universal != pivots {
		return nil, false
	}
	set := map[int]bool{}
	for _, i := range n[:2] {
		for l := range steps[i-1] {
			if l != n[2] && l != -n[2] {
				set[l] = true
			}
		}
	}
	return set, !clashes(set)
}

func (g *game) reduct(step map[int]bool, pivots bool) map[int]bool {
	set := map[int]bool{}
	for l := range step {
		place, universal := g.place(l)
		held := universal == pivots
		for m := range step {
			further, kind := g.place(m)
			held = held || kind == pivots && further > place
		}
		if held {
			set[l] = true
		}
	}
	return set
}

func (g *game) step(line string, steps []map[int]bool, pivots bool) (map[int]bool, bool) {
	if m := axiomLine.FindStringSubmatch(line); m != nil && !pivots {
		if k := numbers(m)[0]; k <= len(g.clauses) && !clashes(g.clauses[k-1]) {
			return g.clauses[k-1], true
		}
	}
	if cubeLine.MatchString(line) && pivots {
		return g.cube(line)
	}
	if m := resolventLine.FindStringSubmatch(line); m != nil {
		return g.resolvent(steps, numbers(m), pivots)
	}
	if m := reductLine.FindStringSubmatch(line); m != nil {
		if i := numbers(m)[0]; i <= len(steps) {
			return g.reduct(steps[i-1], pivots), true
		}
	}
	return nil, false
}

// check tells what Check should: what is proved, or the line.
func (g *game) check(proof string) (int, int) {
	rows := strings.Split(proof, "\n")
	ended := len(rows) - 1
	pivots := rows[0] == "proof true"
	if ended == 0 || !pivots && rows[0] != "proof false" {
		return 0, 1
	}
	var steps []map[int]bool
	for i := 1; i < ended; i++ {
		set, ok := g.step(rows[i], steps, pivots)
		if !ok || i > 9000 {
			return 0, i + 1
		}
		steps = append(steps, set)
	}
	if rows[ended] != "" || len(steps) == 0 || len(steps[len(steps)-1]) > 0 {
		return 0, ended + 1
	}
	if pivots {
		return api.True, 0
	}
	return api.False, 0
}

// wantSame holds Check against the second reading, and what is proved against the game, of which all duels are played.
func (g *game) wantSame(t *testing.T, proof string) int {
	t.Helper()
	kind, line := g.check(proof)
	errno := api.OK
	if kind == 0 {
		errno = api.ErrProof
	}
	wantCheck(t, g.text, proof, kind, errno, line)
	if kind != 0 && g.truth(map[int]bool{}, 0) != (kind == api.True) {
		t.Errorf("of %q: %q proves %d, and it is not so", g.text, proof, kind)
	}
	if kind != 0 {
		g.wantWon(t, proof, kind)
	}
	return kind
}

var someGames = []string{
	"", "c", "c 1", "a 1 / c 1", "c 1 / c -1", "c 1 -1 / c 2", "a 1 / c 1 -1", "e 1 / a 2 / c 2 -2 1",
	innerTrue, outerFalse, fourFalse, parityTrue, threeTrue, threeFalse, pivotsFalse,
	"a 1 / a 2 / c 1 -2 / c -1 2", "a 2 / e 1 / a 3 / c 1 2 3 / c -1 -2 / c -1 3", "a 8 / e 3 / c 3 5 8 / c -3 5 -8 / c -5 8",
}

func loadGames(t *testing.T) []*game {
	var list []*game
	for _, text := range someGames {
		if text != "" {
			text = lines(text)
		}
		list = append(list, newGame(t, text))
	}
	return list
}

func TestAllRowsOfSomeSteps(t *testing.T) {
	some := []string{"a 1\n", "a 2\n", "c\n", "c 1\n", "c -1\n", "c 1 -2\n", "c -1 2\n", "c 2\n", "d 1\n", "d 2\n", "r 1 2 1\n", "r 2 1 1\n", "r 1 2 2\n", "r 3 2 2\n", "d 3\n", "d 1"}
	taken := map[int]int{}
	for _, g := range loadGames(t) {
		for _, first := range []string{"proof false\n", "proof true\n"} {
			texts := []string{first}
			for size := 0; size <= 4; size++ {
				var longer []string
				for _, text := range texts {
					taken[g.wantSame(t, text)]++
					_, line := g.check(text)
					// Behind a line that is none no other matters.
					if size == 4 || line > 0 && line <= strings.Count(text, "\n") {
						continue
					}
					for _, step := range some {
						longer = append(longer, text+step)
					}
				}
				texts = longer
			}
		}
		if t.Failed() {
			return
		}
	}
	if taken[api.False] == 0 || taken[api.True] == 0 || taken[0] == 0 {
		t.Errorf("how often what was proved: %v", taken)
	}
}

func TestAllShortSteps(t *testing.T) {
	signs := strings.Split("acrd120- \n", "")
	for _, text := range []string{outerFalse, innerTrue, "c"} {
		g := newGame(t, lines(text))
		for _, head := range []string{"proof false\n", "proof true\n", "proof false\na 1\n", "proof true\nc 1 -2\n"} {
			rows := []string{""}
			for size := 0; size <= 4; size++ {
				var longer []string
				for _, row := range rows {
					g.wantSame(t, head+row)
					g.wantSame(t, head+row+"\n")
					for _, sign := range signs {
						longer = append(longer, row+sign)
					}
				}
				rows = longer
				if t.Failed() {
					return
				}
			}
		}
	}
}

// chance makes formulas and proofs of a fixed row of numbers.
type chance struct{ *rand.Rand }

func (c chance) formula() string {
	vars := c.Perm(8)[:1+c.Intn(5)]
	text := ""
	for _, v := range vars {
		if kind := c.Intn(7); kind < 6 {
			text += fmt.Sprintf("%s %d\n", "aee"[kind%3:kind%3+1], v+1)
		}
	}
	for i := c.Intn(9); i > 0; i-- {
		text += "c"
		for j := c.Intn(4); j > 0; j-- {
			text += fmt.Sprintf(" %d", (vars[c.Intn(len(vars))]+1)*(1-2*c.Intn(2)))
		}
		text += "\n"
	}
	return text
}

func (c chance) line(g *game, steps []map[int]bool, pivots bool) string {
	last := len(steps) + 1
	near := func() int { return max(0, last-c.Intn(min(last, 12)+1)) }
	switch c.Intn(5) {
	case 0:
		if !pivots {
			return fmt.Sprintf("a %d", 1+c.Intn(len(g.clauses)+1))
		}
		row := "c"
		for v := 1; v <= 8; v++ {
			if place, _ := g.place(v); place >= 0 && c.Intn(8) > 0 {
				row += fmt.Sprintf(" %d", v*(1-2*c.Intn(2)))
			}
		}
		return row
	case 1:
		return fmt.Sprintf("d %d", near())
	}
	i, j, v := near(), near(), 1+c.Intn(8)
	if len(g.prefix) > 0 {
		v = int(g.prefix[c.Intn(len(g.prefix))][1] - '0')
	}
	return fmt.Sprintf("r %d %d %d", i, j, v)
}

// proof draws steps, keeps those that are some, and stops at one without literals.
func (c chance) proof(g *game, pivots bool) string {
	text := "proof false\n"
	if pivots {
		text = "proof true\n"
	}
	var steps []map[int]bool
	for i := 0; i < 300; i++ {
		line := c.line(g, steps, pivots)
		set, ok := g.step(line, steps, pivots)
		if !ok && c.Intn(2000) > 0 {
			continue
		}
		text += line + "\n"
		steps = append(steps, set)
		if len(set) == 0 {
			break
		}
	}
	return text
}

// spoil changes a byte, or takes one out, or lays one in.
func (c chance) spoil(text string) string {
	const signs = "0123456789- \nacrdpx"
	at, sign := c.Intn(len(text)), string(signs[c.Intn(len(signs))])
	switch c.Intn(3) {
	case 0:
		return text[:at] + sign + text[at+1:]
	case 1:
		return text[:at] + text[at+1:]
	}
	return text[:at] + sign + text[at:]
}

func TestProofsByChance(t *testing.T) {
	c := chance{rand.New(rand.NewSource(1))}
	taken := map[int]int{}
	for i := 0; i < 3000 && !t.Failed(); i++ {
		g := newGame(t, c.formula())
		proof := c.proof(g, i%2 == 0)
		taken[g.wantSame(t, proof)]++
		for j := 0; j < 5; j++ {
			g.wantSame(t, c.spoil(proof))
		}
	}
	if taken[api.False] < 300 || taken[api.True] < 300 || taken[0] < 300 {
		t.Errorf("how often what was proved: %v", taken)
	}
}
