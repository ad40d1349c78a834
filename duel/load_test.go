package duel_test

import (
	"reflect"
	"strings"
	"testing"

	"duel/api"
	"duel/duel"
)

// lines writes a text as the document's examples do: separated by / and each ended.
func lines(s string) string {
	return strings.ReplaceAll(s, " / ", "\n") + "\n"
}

// wantLoad tests P1 too: an error comes with nothing but the line.
func wantLoad(t *testing.T, text string, errno api.Errno, line int) *duel.Formula {
	t.Helper()
	f, e, l := duel.Load(text)
	if e != errno || l != line || (f != nil) != (errno == api.OK) {
		t.Errorf("Load(%.60q) = %v, %d, line %d, want %d, line %d", text, f, e, l, errno, line)
	}
	return f
}

func wantBlocks(t *testing.T, text string, blocks [][]int) {
	t.Helper()
	f := wantLoad(t, text, api.OK, 0)
	if f == nil {
		return
	}
	b := f.Blocks()
	if len(b) != len(blocks) || len(b) > 0 && !reflect.DeepEqual(b, blocks) {
		t.Errorf("Blocks of %.60q = %v, want %v", text, b, blocks)
	}
}

func TestNumbersOfTheDocument(t *testing.T) {
	for i, e := range []api.Errno{api.OK, api.ErrLong, api.ErrSyntax, api.ErrLimit, api.ErrArg, api.ErrProof, api.ErrBadMove, api.ErrOver} {
		if int(e) != i {
			t.Errorf("error %d is %d", i, e)
		}
	}
	if api.Unknown != 0 || api.False != 1 || api.True != 2 {
		t.Errorf("verdicts %d, %d, %d", api.Unknown, api.False, api.True)
	}
	if api.MaxText != 2000 || api.MaxVars != 8 || api.MaxClauses != 24 {
		t.Errorf("bounds %d, %d, %d", api.MaxText, api.MaxVars, api.MaxClauses)
	}
}

func TestLoadTakes(t *testing.T) {
	for _, text := range []string{
		"", lines("c"), lines("c 1"), lines("e 1"), lines("a 1"), lines("a 1 / c 1"), lines("c 1 -1"),
		lines("c 1 1"), lines("c -2 -2 2 1 2"), lines("c 8 1 -3"), lines("e 8 7 6 5 4 3 2 1"),
		lines("a 1 / e 2 / c 1 2 / c -1 -2"), lines("e 1 / a 2 / e 3 / c / c 1 3 / c -8"), lines("e 1 / e 2 / a 3 / a 4"), lines("c / c / c 1 / c 1"),
	} {
		wantLoad(t, text, api.OK, 0)
	}
}

func TestLoadRefusesLines(t *testing.T) {
	for _, c := range []struct {
		text string
		line int
	}{
		{"e", 1}, {"a", 1}, {"e 1 1", 1}, {"a 2 1 2", 1}, {"e 9", 1}, {"e 0", 1}, {"e -1", 1}, {"a -1", 1}, {"e 01", 1}, {"e 10", 1}, {"e  1", 1}, {"e 1 ", 1}, {" e 1", 1}, {"e1", 1}, {"ea 1", 1}, {"E 1", 1}, {"e e", 1},
		{"c 0", 1}, {"c -0", 1}, {"c  1", 1}, {"c 1  2", 1}, {"c ", 1}, {" c", 1}, {"c 1 ", 1}, {"c --1", 1}, {"c -", 1}, {"c 1-", 1}, {"c 10", 1}, {"c 9", 1}, {"c -9", 1}, {"c 01", 1}, {"c -01", 1}, {"c +1", 1}, {"c1", 1}, {"cc", 1}, {"c 1 x", 1}, {"c\t1", 1}, {"c 1\r", 1}, {"c 1\x00", 1}, {"c １", 1}, {"c 18446744073709551617", 1},
		{"x", 1}, {"", 1}, {" ", 1}, {"1", 1}, {"# c", 1},
		{"e 1 / a 1", 2}, {"e 1 / e 1", 2}, {"e 1 / a 2 / e 3 2", 3}, {"c 1 / e 1", 2}, {"c / a 2", 2}, {"e 1 / c 1 / c 2 / e 3", 4}, {"c 1 / x / y", 2}, {"e 1 / a 1 / x", 2},
	} {
		wantLoad(t, lines(c.text), api.ErrSyntax, c.line)
	}
	wantLoad(t, "e 1\n\nc 1\n", api.ErrSyntax, 2)
	wantLoad(t, "c 1\n\n", api.ErrSyntax, 2)
}

func TestLoadWantsTheLastNewline(t *testing.T) {
	for _, c := range []struct {
		text string
		line int
	}{
		{"c 1", 1}, {"c", 1}, {"x", 1}, {" ", 1}, {"\x00", 1}, {"e 1\nc 1", 2}, {"c 1\nc 2\n ", 3}, {"c 1\nx\nc 2", 2}, {"c 1\nc 2\r", 2}, {"\nc", 1},
	} {
		wantLoad(t, c.text, api.ErrSyntax, c.line)
	}
}

func TestLoadBytes(t *testing.T) {
	full := "c" + strings.Repeat(" 1", 999) + "\n"
	over := "c" + strings.Repeat(" 1", 998) + " -1\n"
	if len(full) != 2000 || len(over) != 2001 {
		t.Fatalf("the texts have %d and %d bytes", len(full), len(over))
	}
	wantBlocks(t, full, [][]int{{1}})
	wantLoad(t, over, api.ErrLong, 0)
	wantLoad(t, strings.Repeat("x", 2000), api.ErrSyntax, 1)
	wantLoad(t, strings.Repeat("x", 2001), api.ErrLong, 0)
	wantLoad(t, strings.Repeat("\n", 2001), api.ErrLong, 0)
	wantLoad(t, strings.Repeat("c\n", 1000), api.ErrLimit, 0)
	wantLoad(t, strings.Repeat("c\n", 1000)+"c", api.ErrLong, 0)
	wantLoad(t, strings.Repeat("c\n", 1<<20), api.ErrLong, 0)
}

func TestLoadClauses(t *testing.T) {
	for _, clause := range []string{"c\n", "c 1\n", "c 1 -1\n", "c 1 1\n", "c 1 2 3 -4 -5 -6 7 8\n"} {
		for _, prefix := range []string{"", "e 1\n", "a 1\ne 2\n"} {
			wantLoad(t, prefix+strings.Repeat(clause, 24), api.OK, 0)
			wantLoad(t, prefix+strings.Repeat(clause, 25), api.ErrLimit, 0)
		}
	}
	wantLoad(t, strings.Repeat("c 1\n", 25)+"x\n", api.ErrSyntax, 26)
	wantLoad(t, strings.Repeat("c 1\n", 25)+"e 2\n", api.ErrSyntax, 26)
	wantLoad(t, strings.Repeat("c 1\n", 25)+"c 1", api.ErrSyntax, 26)
	wantLoad(t, strings.Repeat("c 1\n", 24)+"c 1", api.ErrSyntax, 25)
}

func TestLoadHoldsAtAllBytes(t *testing.T) {
	for b := 0; b < 256; b++ {
		c := string([]byte{byte(b)})
		errno, line := api.ErrSyntax, 1
		if c >= "1" && c <= "8" {
			errno, line = api.OK, 0
		}
		wantLoad(t, "c "+c+"\n", errno, line)
		wantLoad(t, "c -"+c+"\n", errno, line)
		wantLoad(t, "e "+c+"\n", errno, line)
		wantLoad(t, c, api.ErrSyntax, 1)
		wantLoad(t, "c 1\n"+c, api.ErrSyntax, 2)
		errno, line = api.ErrSyntax, 1
		if c == "c" {
			errno, line = api.OK, 0
		}
		wantLoad(t, c+"\n", errno, line)
	}
}

func TestLoadHangsOnTheTextAlone(t *testing.T) {
	bytes := []byte("a 1\ne 2\nc 1 2 -3\n")
	f := wantLoad(t, string(bytes), api.OK, 0)
	wantLoad(t, "e 1\nx\n", api.ErrSyntax, 2)
	wantLoad(t, strings.Repeat("c\n", 25), api.ErrLimit, 0)
	wantLoad(t, "e 1 2 3\n", api.OK, 0)
	want := [][]int{{3}, {1}, {2}}
	if b := f.Blocks(); !reflect.DeepEqual(b, want) {
		t.Errorf("Blocks = %v, want %v, whatever is loaded later", b, want)
	}
	wantBlocks(t, string(bytes), want)
}
