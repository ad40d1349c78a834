package duel_test

import (
	"regexp"
	"strings"
	"testing"

	"duel/api"
)

// A second reading of P3 and P4, written another way, that Load and Blocks are held against.

var prefixLine = regexp.MustCompile(`^[ea]( [1-8])+\n$`)
var clauseLine = regexp.MustCompile(`^c( -?[1-8])*\n$`)

// byRules tells the line that is none, or 0, the number of clauses, and the prefix as a row of words such as e1 or a2.
func byRules(text string) (int, int, []string) {
	var prefix, inClauses []string
	clauses := 0
	for i, line := range strings.SplitAfter(text, "\n") {
		switch {
		case line == "":
			// What SplitAfter tells behind the last newline, if nothing is there.
		case prefixLine.MatchString(line) && clauses == 0:
			for _, v := range strings.Fields(line)[1:] {
				if strings.Contains(strings.Join(prefix, ""), v) {
					return i + 1, 0, nil
				}
				prefix = append(prefix, line[:1]+v)
			}
		case clauseLine.MatchString(line):
			clauses++
			inClauses = append(inClauses, line)
		default:
			return i + 1, 0, nil
		}
	}
	var free []string
	for _, v := range strings.Split("12345678", "") {
		if strings.Contains(strings.Join(inClauses, ""), v) && !strings.Contains(strings.Join(prefix, ""), v) {
			free = append(free, "e"+v)
		}
	}
	return 0, clauses, append(free, prefix...)
}

func blocksByRules(prefix []string) [][]int {
	var blocks [][]int
	kind := byte(0)
	for _, v := range prefix {
		if v[0] != kind {
			blocks = append(blocks, nil)
			kind = v[0]
		}
		blocks[len(blocks)-1] = append(blocks[len(blocks)-1], int(v[1]-'0'))
	}
	return blocks
}

func wantByRules(t *testing.T, text string) {
	t.Helper()
	line, clauses, prefix := byRules(text)
	switch {
	case line > 0:
		wantLoad(t, text, api.ErrSyntax, line)
	case clauses > 24:
		wantLoad(t, text, api.ErrLimit, 0)
	default:
		wantBlocks(t, text, blocksByRules(prefix))
	}
}

func TestAllShortTexts(t *testing.T) {
	texts := []string{""}
	for size := 0; size <= 6; size++ {
		var longer []string
		for _, text := range texts {
			wantByRules(t, text)
			if size == 6 {
				continue
			}
			for _, c := range strings.Split("eac180- \n", "") {
				longer = append(longer, text+c)
			}
		}
		texts = longer
		if t.Failed() {
			return
		}
	}
}

func TestAllRowsOfSomeLines(t *testing.T) {
	some := []string{"e 1\n", "e 3 2\n", "a 1\n", "a 4 5\n", "e 6\n", "c\n", "c 1 -6\n", "c -8 8\n", "c 2 7 2\n", "a\n", "c 1", "\n"}
	texts := []string{""}
	for size := 0; size <= 4; size++ {
		var longer []string
		for _, text := range texts {
			wantByRules(t, text)
			if size == 4 {
				continue
			}
			for _, line := range some {
				longer = append(longer, text+line)
			}
		}
		texts = longer
		if t.Failed() {
			return
		}
	}
}

func TestLongRowsOfClauses(t *testing.T) {
	for n := 20; n <= 30; n++ {
		wantByRules(t, strings.Repeat("c 3 -4\n", n))
		wantByRules(t, "a 4\n"+strings.Repeat("c 3 -4\n", n))
		wantByRules(t, strings.Repeat("c 3 -4\n", n)+"e 1\n")
		wantByRules(t, strings.Repeat("c 3 -4\n", n)+"c")
	}
}
