package sieve

import "sieveworks/api"

// everything is all bits of what a filter can.
const everything = api.CanAsk | api.CanAnswer | api.CanClose

// The parts that a wild filter can what it can by.
type (
	asks    struct{}
	answers struct{}
	closes  struct{}
)

func (f asks) Ask(m api.Msg, gate int) (int, api.Msg, int) { return goIn(m, gate) }

func (f answers) Answer(m api.Msg, again int) (int, api.Msg) { return goOut(m) }

func (f closes) Close() {}

// What a value can hangs on its type, so that there is one for each N of a wild filter.
type (
	wildNothing struct{ counted }
	wildAsk     struct {
		counted
		asks
	}
	wildAnswer struct {
		counted
		answers
	}
	wildAskAnswer struct {
		counted
		asks
		answers
	}
	wildClose struct {
		counted
		closes
	}
	wildAskClose struct {
		counted
		asks
		closes
	}
	wildAnswerClose struct {
		counted
		answers
		closes
	}
	wildAll struct {
		counted
		asks
		answers
		closes
	}
)

// wild goes by the lowest bits of n, also of one that is out of range.
func wild(n int) Filter {
	c := counted{n, everything}
	switch n & everything {
	case api.CanAsk:
		return wildAsk{counted: c}
	case api.CanAnswer:
		return wildAnswer{counted: c}
	case api.CanAsk | api.CanAnswer:
		return wildAskAnswer{counted: c}
	case api.CanClose:
		return wildClose{counted: c}
	case api.CanAsk | api.CanClose:
		return wildAskClose{counted: c}
	case api.CanAnswer | api.CanClose:
		return wildAnswerClose{counted: c}
	case everything:
		return wildAll{counted: c}
	}
	return wildNothing{c}
}
