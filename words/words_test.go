package words

import (
	"math"
	"reflect"
	"testing"
)

func TestLines(t *testing.T) {
	for _, c := range []struct {
		text  string
		lines []string
		ended bool
	}{
		{"", nil, true},
		{"\n", []string{""}, true},
		{"a\n", []string{"a"}, true},
		{"a", nil, false},
		{"a\nb", []string{"a"}, false},
		{"a\n\nb \n", []string{"a", "", "b "}, true},
		{"a\r\n ", []string{"a\r"}, false},
	} {
		lines, ended := Lines(c.text)
		if !reflect.DeepEqual(lines, c.lines) || ended != c.ended {
			t.Errorf("Lines(%q) = %q, %v, want %q, %v", c.text, lines, ended, c.lines, c.ended)
		}
	}
}

func TestSplit(t *testing.T) {
	for _, c := range []struct {
		line string
		list []string
	}{
		{"c", []string{"c"}},
		{"c 1 -2", []string{"c", "1", "-2"}},
		{"c\t1", []string{"c\t1"}},
		{"", nil}, {" ", nil}, {"  ", nil}, {" c", nil}, {"c ", nil}, {"c  1", nil},
	} {
		list, ok := Split(c.line)
		if !reflect.DeepEqual(list, c.list) || ok != (c.list != nil) {
			t.Errorf("Split(%q) = %q, %v, want %q", c.line, list, ok, c.list)
		}
	}
}

func TestNumber(t *testing.T) {
	for _, c := range []struct {
		word string
		most int
		n    int
	}{
		{"1", 1, 1}, {"8", 8, 8}, {"10", 10, 10}, {"9000", 9000, 9000}, {"102", 9000, 102},
		{"9223372036854775807", math.MaxInt, math.MaxInt},
		{"", 8, 0}, {"0", 8, 0}, {"00", 8, 0}, {"01", 8, 0}, {"9", 8, 0}, {"10", 9, 0}, {"9001", 9000, 0},
		{"5", 3, 0}, {"1", 0, 0}, {"1", -1, 0}, {"1", math.MinInt, 0},
		{"-1", 8, 0}, {"+1", 8, 0}, {"1x", 8, 0}, {"x", 8, 0}, {"/", 8, 0}, {":", 8, 0}, {"1 ", 8, 0}, {"\x00", 8, 0}, {"１", 8, 0},
		{"9223372036854775808", math.MaxInt, 0}, {"18446744073709551617", math.MaxInt, 0}, {"18446744073709551617", 8, 0},
	} {
		n, ok := Number(c.word, c.most)
		if n != c.n || ok != (c.n != 0) {
			t.Errorf("Number(%q, %d) = %d, %v, want %d", c.word, c.most, n, ok, c.n)
		}
	}
}

func TestVariableAndLiteral(t *testing.T) {
	for _, c := range []struct {
		word              string
		variable, literal int
	}{
		{"1", 1, 1}, {"8", 8, 8}, {"-1", 0, -1}, {"-8", 0, -8},
		{"", 0, 0}, {"0", 0, 0}, {"-0", 0, 0}, {"9", 0, 0}, {"-9", 0, 0}, {"10", 0, 0}, {"-", 0, 0}, {"--1", 0, 0}, {"-01", 0, 0}, {"01", 0, 0}, {"+1", 0, 0}, {"1-", 0, 0},
	} {
		v, ok := Variable(c.word)
		if v != c.variable || ok != (c.variable != 0) {
			t.Errorf("Variable(%q) = %d, %v, want %d", c.word, v, ok, c.variable)
		}
		l, ok := Literal(c.word)
		if l != c.literal || ok != (c.literal != 0) {
			t.Errorf("Literal(%q) = %d, %v, want %d", c.word, l, ok, c.literal)
		}
	}
}
