package shop

import (
	"strconv"
	"strings"

	"forcola/api"
)

// errno is an error of package api that can be wrapped.
type errno api.Errno

// Error is the reply to a line that is refused with that error.
func (e errno) Error() string {
	return listed("error", int(e))
}

// refusal is an error with the line that caused it.
type refusal struct {
	line  string
	cause error
}

func (r refusal) Error() string {
	return r.line + ": " + r.cause.Error()
}

func (r refusal) Unwrap() error {
	return r.cause
}

// answer returns the error, if there is one, otherwise the text.
func answer(e api.Errno, text string) (string, api.Errno) {
	if e != api.OK {
		return "", e
	}
	return text, api.OK
}

// numbered returns the error, if there is one, otherwise the name and the numbers.
func numbered[N int | int64](e api.Errno, name string, numbers ...N) (string, api.Errno) {
	return answer(e, listed(name, numbers...))
}

// listed returns the name and the numbers, with a blank before each of them.
func listed[N int | int64](name string, numbers ...N) string {
	var b strings.Builder
	b.WriteString(name)
	for _, n := range numbers {
		b.WriteByte(' ')
		b.WriteString(strconv.FormatInt(int64(n), 10))
	}
	return b.String()
}

// joined returns the lines, each followed by a line feed.
func joined(lines []string) string {
	var b strings.Builder
	for _, l := range lines {
		b.WriteString(l)
		b.WriteByte('\n')
	}
	return b.String()
}
