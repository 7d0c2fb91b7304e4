package sieve

import (
	"sieveworks/api"
	"sieveworks/msg"
)

// Filter is a filter as a value; what else it can is for assertions to Asker, Answerer and Closer to find.
type Filter interface {
	Wrong() api.Errno
}

// Asker is a filter that can look at asks.
type Asker interface {
	Ask(m api.Msg, gate int) (int, api.Msg, int)
}

// Answerer is a filter that can look at answers.
type Answerer interface {
	Answer(m api.Msg, again int) (int, api.Msg)
}

// Closer is a filter that can be closed.
type Closer interface {
	Close()
}

// New answers a value of any s, so that what is wrong with s can be asked of it too.
func New(s api.Sieve) Filter {
	switch s.Kind {
	case api.SieveSet:
		return setter{named{s.Key, s.Text}}
	case api.SieveMark:
		return marker{named{s.Key, s.Text}}
	case api.SieveToken:
		return token{named{s.Key, s.Text}}
	case api.SieveLimit:
		return limit{counted{s.N, api.MaxBody}}
	case api.SieveGate:
		return gatekeeper{counted{s.N, api.MaxCount}}
	case api.SieveRetry:
		return retry{counted{s.N, api.MaxCount}}
	case api.SieveWild:
		return wild(s.N)
	}
	return unknown{}
}

// named is what filters have in common that know a head.
type named struct{ key, text string }

func (f named) Wrong() api.Errno {
	if !msg.Key(f.key) || !msg.Line(f.text) {
		return api.ErrName
	}
	return api.OK
}

// counted is what filters have in common that go by a number.
type counted struct{ n, most int }

func (f counted) Wrong() api.Errno {
	if f.n < 0 || f.n > f.most {
		return api.ErrRange
	}
	return api.OK
}

// unknown is of a kind that there isn't: it can nothing.
type unknown struct{}

func (f unknown) Wrong() api.Errno { return api.ErrKind }

type setter struct{ named }

func (f setter) Ask(m api.Msg, gate int) (int, api.Msg, int) {
	return api.DoNext, msg.Set(m, f.key, f.text), gate
}

type marker struct{ named }

func (f marker) Answer(m api.Msg, again int) (int, api.Msg) {
	return api.DoNext, msg.Set(m, f.key, f.text)
}

type token struct{ named }

// Ask looks whether the head is there, too: a missing one must not pass for an empty text.
func (f token) Ask(m api.Msg, gate int) (int, api.Msg, int) {
	if text, ok := msg.Get(m, f.key); !ok || text != f.text {
		return stop(401, "token", gate)
	}
	return goIn(m, gate)
}

type limit struct{ counted }

func (f limit) Ask(m api.Msg, gate int) (int, api.Msg, int) {
	if len(m.Body) > f.n {
		return stop(413, "limit", gate)
	}
	return goIn(m, gate)
}

type gatekeeper struct{ counted }

// Ask counts only below N, so that no count is too great for one more.
func (f gatekeeper) Ask(m api.Msg, gate int) (int, api.Msg, int) {
	if gate >= f.n {
		return stop(429, "gate", gate)
	}
	return goIn(m, gate+1)
}

type retry struct{ counted }

// Answer keeps the answer at DoAgain too: who is to have it done again may have done so too often.
func (f retry) Answer(m api.Msg, again int) (int, api.Msg) {
	if m.Status >= 500 && again < f.n {
		return api.DoAgain, msg.Own(m)
	}
	return goOut(m)
}
