package duel_test

import (
	"reflect"
	"testing"

	"duel/api"
	"duel/duel"
)

func TestBlocks(t *testing.T) {
	for _, c := range []struct {
		text   string
		blocks [][]int
	}{
		{"c", nil},
		{"e 3", [][]int{{3}}},
		{"a 3", [][]int{{3}}},
		{"a 3 / e 1 / e 2 / c 4 1", [][]int{{4}, {3}, {1, 2}}},
		{"e 2 1 / c 5 -3", [][]int{{3, 5, 2, 1}}},
		{"a 2 1 / c 5 -3", [][]int{{3, 5}, {2, 1}}},
		{"a 7 / a 6 5 / a 8", [][]int{{7, 6, 5, 8}}},
		{"a 2 / e 4 / e 3 / a 1 / c 1 2 3 4", [][]int{{2}, {4, 3}, {1}}},
		{"e 4 / a 3 1 / e 2", [][]int{{4}, {3, 1}, {2}}},
		{"c 8 -8", [][]int{{8}}},
		{"c -7 / c 2 2 / c / c 5", [][]int{{2, 5, 7}}},
		{"e 8 / c 8 1 7 -3", [][]int{{1, 3, 7, 8}}},
		{"a 8 / e 1 / c 7 -1", [][]int{{7}, {8}, {1}}},
		{"e 1 / a 2 / e 3 / a 4 / e 5 / a 6 / e 7 / a 8", [][]int{{1}, {2}, {3}, {4}, {5}, {6}, {7}, {8}}},
		{"e 8 7 6 5 4 3 2 1", [][]int{{8, 7, 6, 5, 4, 3, 2, 1}}},
		{"c 8 7 6 5 4 3 2 1", [][]int{{1, 2, 3, 4, 5, 6, 7, 8}}},
	} {
		wantBlocks(t, lines(c.text), c.blocks)
	}
	wantBlocks(t, "", nil)
}

// scribble writes into all the room that a caller can reach from lists of Blocks.
func scribble(blocks [][]int) {
	whole := blocks[:cap(blocks)]
	for i := range whole {
		block := whole[i][:cap(whole[i])]
		for j := range block {
			block[j] = 99
		}
		whole[i] = append(whole[i], 98)
		whole[i] = []int{97}
	}
}

func TestBlocksAreTheCallers(t *testing.T) {
	for _, text := range []string{"", "c", "e 3", "a 3 / e 1 / e 2 / c 4 1", "e 2 1 / c 5 -3", "e 1 2 3 / a 4 5 6 / e 7 8", "e 1 / a 2 / e 3 / a 4 / e 5 / a 6 / e 7 / a 8"} {
		if text != "" {
			text = lines(text)
		}
		f := wantLoad(t, text, api.OK, 0)
		want := f.Blocks()
		first, second := f.Blocks(), f.Blocks()
		scribble(first)
		third := f.Blocks()
		for _, b := range [][][]int{second, third} {
			if !reflect.DeepEqual(b, want) {
				t.Errorf("Blocks of %q, another answer written into, = %v, want %v", text, b, want)
			}
		}
		wantBlocks(t, text, want)
	}
}

func TestBlocksOfOneAnswerShareNoRoom(t *testing.T) {
	f := wantLoad(t, lines("e 1 2 3 / a 4 / e 5 6 / a 7 8"), api.OK, 0)
	want := [][]int{{1, 2, 3}, {4}, {5, 6}, {7, 8}}
	for i := range want {
		b := f.Blocks()
		block := b[i][:cap(b[i])]
		for j := range block {
			block[j] = 99
		}
		for k := range b {
			if k != i && !reflect.DeepEqual(b[k], want[k]) {
				t.Errorf("block %d = %v, block %d written into, want %v", k, b[k], i, want[k])
			}
		}
	}
}

func TestBlocksOfNoFormula(t *testing.T) {
	var none *duel.Formula
	if b := none.Blocks(); len(b) != 0 {
		t.Errorf("Blocks of nil = %v", b)
	}
	if b := new(duel.Formula).Blocks(); len(b) != 0 {
		t.Errorf("Blocks of a new Formula = %v", b)
	}
}
