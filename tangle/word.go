package tangle

import (
	"slices"
	"strings"

	"forcola/api"
)

func isLetter(letter rune) bool {
	return letter == 't' || letter == 'T' || letter == 'r'
}

// readValue returns the value of word, or an error.
func readValue(word string) (fraction, api.Errno) {
	if e := Check(word); e != api.OK {
		return fraction{}, e
	}
	x := zero
	for _, letter := range word {
		x = x.after(letter)
		if !x.isWithin(maxOnTheWay) {
			return fraction{}, api.ErrLarge
		}
	}
	return x, api.OK
}

// after is what the letter makes of x. As q of the infinite fraction is 0, that stays as it is with t and T.
func (x fraction) after(letter rune) fraction {
	switch letter {
	case 't':
		return fraction{x.p + x.q, x.q}
	case 'T':
		return fraction{x.p - x.q, x.q}
	}
	return x.turned()
}

// turned is -1 / x.
func (x fraction) turned() fraction {
	if x.p > 0 {
		return fraction{-x.q, x.p}
	}
	return fraction{x.q, -x.p}
}

// descent is a word that leads from x to 0. A turn makes q smaller, and between two turns p comes nearer to 0, so no number becomes greater than those of x.
func (x fraction) descent() string {
	var word strings.Builder
	step := func(letter rune) {
		word.WriteRune(letter)
		x = x.after(letter)
	}
	for x != zero {
		switch {
		case x.q == 0 || -x.q < x.p && x.p < x.q:
			step('r')
		case x.p > 0:
			step('T')
		default:
			step('t')
		}
	}
	return word.String()
}

// undoing is the word that takes back what word does, from its last letter to its first one.
func undoing(word string) string {
	var back []rune
	for _, letter := range word {
		back = append(back, opposite(letter))
	}
	slices.Reverse(back)
	return string(back)
}

// opposite is the letter that takes back what letter does.
func opposite(letter rune) rune {
	switch letter {
	case 't':
		return 'T'
	case 'T':
		return 't'
	}
	return letter
}
