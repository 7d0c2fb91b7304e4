package msg

import (
	"strconv"
	"strings"

	"sieveworks/api"
)

// The words that a message's first line begins with.
const (
	askWord = "ask "
	sayWord = "say "
)

// Text writes right messages only: others might be read again as something else.
func Text(m api.Msg) (string, api.Errno) {
	if err := Wrong(m); err != api.OK {
		return "", err
	}
	out := askWord + m.Path
	if m.Status != 0 {
		out = sayWord + strconv.Itoa(m.Status)
	}
	out += "\n"
	for _, h := range m.Heads {
		out += h.Key + "=" + h.Text + "\n"
	}
	return out + "\n" + string(m.Body), api.OK
}

// Parse looks at the whole form first: what is wrong with a message is told only of one that is written as it must be.
func Parse(s string) (api.Msg, api.Errno) {
	m, ok := read(s)
	if !ok {
		return api.Msg{}, api.ErrForm
	}
	if err := Wrong(m); err != api.OK {
		return api.Msg{}, err
	}
	return m, api.OK
}

// read takes a text apart; whether its parts are right is not its matter.
func read(s string) (api.Msg, bool) {
	rest := s
	next := func() (string, bool) {
		line, behind, ok := strings.Cut(rest, "\n")
		rest = behind
		return line, ok
	}
	line, ended := next()
	m, ok := first(line)
	if !ended || !ok {
		return api.Msg{}, false
	}
	for {
		line, ended = next()
		if !ended {
			return api.Msg{}, false
		}
		if line == "" {
			m.Body = []byte(rest)
			return m, true
		}
		key, text, ok := strings.Cut(line, "=")
		if !ok {
			return api.Msg{}, false
		}
		if len(m.Heads) <= api.MaxHeads { // one too many is enough to be told so
			m.Heads = append(m.Heads, api.Head{Key: key, Text: text})
		}
	}
}

// first reads a message's first line.
func first(line string) (api.Msg, bool) {
	if path, ok := strings.CutPrefix(line, askWord); ok {
		return api.Msg{Path: path}, true
	}
	if tens, ok := strings.CutPrefix(line, sayWord); ok {
		n, ok := number(tens)
		return api.Msg{Status: n}, ok
	}
	return api.Msg{}, false
}

// number takes only what strconv.Itoa would write, so that each status is written in one way; 0 would make an ask of an answer.
func number(tens string) (int, bool) {
	n, err := strconv.Atoi(tens)
	if err != nil || n == 0 || strconv.Itoa(n) != tens {
		return 0, false
	}
	return n, true
}
