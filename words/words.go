// Package words takes texts apart into lines, words and numbers, in the one way in which formulas and proofs write them.
package words

import "duel/api"

// Lines tells the ended lines of a text, without their newlines, and whether nothing stands behind the last newline.
func Lines(text string) ([]string, bool) {
	var lines []string
	start := 0
	for i := 0; i < len(text); i++ {
		if text[i] == '\n' {
			lines = append(lines, text[start:i])
			start = i + 1
		}
	}
	return lines, start == len(text)
}

// Split tells the words of a line, and whether it is one: an empty word would mean a blank at an end, two blanks side by side, or an empty line.
func Split(line string) ([]string, bool) {
	var list []string
	start := 0
	for i := 0; i <= len(line); i++ {
		if i < len(line) && line[i] != ' ' {
			continue
		}
		if i == start {
			return nil, false
		}
		list = append(list, line[start:i])
		start = i + 1
	}
	return list, true
}

// Number tells the number from 1 to most that a word writes without noughts ahead, and whether it does.
func Number(word string, most int) (int, bool) {
	if len(word) == 0 || word[0] == '0' {
		return 0, false
	}
	n := 0
	for i := 0; i < len(word); i++ {
		if word[i] < '0' || word[i] > '9' {
			return 0, false
		}
		digit := int(word[i] - '0')
		// Tested ahead of the sum, which could overflow.
		if digit > most || n > (most-digit)/10 {
			return 0, false
		}
		n = n*10 + digit
	}
	return n, true
}

// Variable tells the variable that a word writes, and whether it does.
func Variable(word string) (int, bool) {
	return Number(word, api.MaxVars)
}

// Literal tells the literal that a word writes, and whether it does.
func Literal(word string) (int, bool) {
	if len(word) > 0 && word[0] == '-' {
		v, ok := Variable(word[1:])
		return -v, ok
	}
	return Variable(word)
}
