// Package msg has messages as texts: see doc/01-msg.md.
package msg

import (
	"bytes"
	"slices"

	"sieveworks/api"
)

// The statuses that an answer may have; 0 is left to asks.
const (
	minStatus = 100
	maxStatus = 599
)

// Own shares no list with m, so that either may be changed without the other.
func Own(m api.Msg) api.Msg {
	m.Heads = append([]api.Head(nil), m.Heads...)
	m.Body = append([]byte(nil), m.Body...)
	return m
}

// Key tells whether s may name a head.
func Key(s string) bool {
	return s != "" && consists(s, api.MaxKey, small)
}

// Path tells whether s may be what an ask is for.
func Path(s string) bool {
	return s != "" && s[0] == '/' && consists(s, api.MaxPath, func(b byte) bool {
		return small(b) || '0' <= b && b <= '9' || b == '/'
	})
}

// Line tells whether s may stand in a line: without line feeds, what is written is read again.
func Line(s string) bool {
	return consists(s, api.MaxLine, func(b byte) bool { return ' ' <= b && b <= '~' })
}

// Wrong tells the first thing that keeps m from being right.
func Wrong(m api.Msg) api.Errno {
	ask := m.Status == 0
	switch {
	case !ask && (m.Status < minStatus || m.Status > maxStatus):
		return api.ErrRange
	case ask && !Path(m.Path):
		return api.ErrForm
	case !ask && m.Path != "": // any Path: it would be lost when the answer is written
		return api.ErrForm
	case len(m.Heads) > api.MaxHeads:
		return api.ErrMany
	case len(m.Body) > api.MaxBody:
		return api.ErrMuch
	}
	for i, h := range m.Heads {
		if !Key(h.Key) || find(m.Heads[:i], h.Key) >= 0 || !Line(h.Text) {
			return api.ErrName
		}
	}
	return api.OK
}

// Get looks a head up; of several with that key the first one counts.
func Get(m api.Msg, key string) (string, bool) {
	at := find(m.Heads, key)
	if at < 0 {
		return "", false
	}
	return m.Heads[at].Text, true
}

// Set leaves m alone; where there is no room for one more head, its answer is as m was.
func Set(m api.Msg, key, text string) api.Msg {
	m = Own(m)
	if at := find(m.Heads, key); at >= 0 {
		m.Heads[at].Text = text
	} else if len(m.Heads) < api.MaxHeads {
		m.Heads = append(m.Heads, api.Head{Key: key, Text: text})
	}
	return m
}

// Answer takes any status and text: whether they are right is for Wrong to tell.
func Answer(status int, text string) api.Msg {
	return api.Msg{Status: status, Body: []byte(text)}
}

// Same tells lists without entries from nil no more than the rest of the program does.
func Same(a, b api.Msg) bool {
	return a.Status == b.Status && a.Path == b.Path &&
		slices.Equal(a.Heads, b.Heads) && bytes.Equal(a.Body, b.Body)
}

// find answers the place of the first head with that key, or -1.
func find(heads []api.Head, key string) int {
	return slices.IndexFunc(heads, func(h api.Head) bool { return h.Key == key })
}

// consists tells whether s is at most so many bytes, each of which fits.
func consists(s string, most int, fits func(b byte) bool) bool {
	if len(s) > most {
		return false
	}
	for i := range len(s) {
		if !fits(s[i]) {
			return false
		}
	}
	return true
}

func small(b byte) bool { return 'a' <= b && b <= 'z' }
