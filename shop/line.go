package shop

import (
	"slices"
	"strconv"
	"strings"

	"forcola/api"
)

// done is the reply to a line that changed the shop.
const done = "ok"

// line is the method of a shop that does lines with some first word. The types of lines differ in what follows that word.
type line interface {
	// words is how many words follow the first one.
	words() int
}

type (
	// alone is a line of one word.
	alone func() (string, api.Errno)
	// withWord is a line of two words.
	withWord func(w string) (string, api.Errno)
	// withWords is a line of three words.
	withWords func(v, w string) (string, api.Errno)
	// withNumber is a line of a word and a number.
	withNumber func(n int) (string, api.Errno)
	// withNumbers is a line of a word and two numbers.
	withNumbers func(a, b int) (string, api.Errno)
)

func (alone) words() int { return 0 }

func (withWord) words() int { return 1 }

func (withWords) words() int { return 2 }

func (withNumber) words() int { return 1 }

func (withNumbers) words() int { return 2 }

// do returns the reply to the text of a line, or a refusal. Only lines that change the shop have the reply by which it comes into the book.
func (s *Shop) do(text string) (string, error) {
	reply, e := s.answerTo(text)
	if e != api.OK {
		return "", refusal{text, errno(e)}
	}
	if reply == done {
		s.book = append(s.book, text)
	}
	return reply, nil
}

// answerTo returns the reply to the text of a line, or its error.
func (s *Shop) answerTo(text string) (string, api.Errno) {
	switch {
	case s == nil:
		return "", api.ErrNil
	case len(text) > api.MaxLine || strings.Contains(text, "\n"):
		return "", api.ErrLong
	case text == "" || text[0] == '#':
		return "", api.OK
	}
	words := strings.Split(text, " ")
	if slices.Contains(words, "") {
		return "", api.ErrLine
	}
	return call(s.find(words[0]), words[1:])
}

// find returns the line with that first word, or nil if there is none.
func (s *Shop) find(first string) line {
	if l := s.command(first); l != nil {
		return l
	}
	return s.question(first)
}

// call does a line with the words that follow its first one.
func call(l line, words []string) (string, api.Errno) {
	if l == nil || l.words() != len(words) {
		return "", api.ErrLine
	}
	switch do := l.(type) {
	case alone:
		return do()
	case withWord:
		return do(words[0])
	case withWords:
		return do(words[0], words[1])
	case withNumber:
		if n, ok := number(words[0]); ok {
			return do(n)
		}
	case withNumbers:
		a, ok := number(words[0])
		b, both := number(words[1])
		if ok && both {
			return do(a, b)
		}
	}
	return "", api.ErrLine
}

// number returns the number that the word writes. A number is written in one way only: other ways to write it are none.
func number(word string) (int, bool) {
	n, err := strconv.Atoi(word)
	if err != nil || strconv.Itoa(n) != word || n < -maxNumber || n > maxNumber {
		return 0, false
	}
	return n, true
}
