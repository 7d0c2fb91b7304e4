package watch_test

import (
	"math"
	"math/rand/v2"
	"testing"

	"sieveworks/api"
	"sieveworks/watch"
)

func onionIs(t *testing.T, want bool, l ...api.Mark) {
	t.Helper()
	if got := watch.Onion(l); got != want {
		t.Errorf("%v: %v comes", l, got)
	}
}

// filters are numbers of filters, below and above all that there are too.
func filters() []int { return []int{-3, -2, -1, 0, 1, 2, 3, 4, 5, 6, 7, 8} }

func TestL2NoMarks(t *testing.T) {
	onionIs(t, true)
	onionIs(t, true, []api.Mark{}...)
}

// TestL2First: at first CallAsk of filter -1 was.
func TestL2First(t *testing.T) {
	for _, f := range append(filters(), great()...) {
		onionIs(t, f > -1, mark(0, f, api.CallAsk))
		onionIs(t, f < api.MaxSieves, mark(0, f, api.CallAnswer))
		onionIs(t, f < api.MaxSieves, mark(0, f, api.CallClose))
		onionIs(t, true, mark(0, f, api.CallGive))
		onionIs(t, true, mark(0, f, api.CallUp))
		onionIs(t, true, mark(0, f, 6))
		onionIs(t, false, mark(0, f, 0))
		onionIs(t, false, mark(0, f, -1))
	}
}

// fits are words for which filters of the next mark are in order, g behind f.
var fits = map[string]func(f, g int) bool{
	"none":       func(f, g int) bool { return false },
	"any":        func(f, g int) bool { return true },
	"above":      func(f, g int) bool { return g > f },
	"below":      func(f, g int) bool { return g < f },
	"below most": func(f, g int) bool { return g < 6 },
	"above most": func(f, g int) bool { return g > 6 },
}

// TestL2Pairs: each call behind each other one, of filters below, as, and above that one's.
func TestL2Pairs(t *testing.T) {
	next := []int{-1, 0, api.CallAsk, api.CallAnswer, api.CallClose, api.CallGive, api.CallUp, 6, 7}
	for call, want := range map[int][]string{
		api.CallAsk:    {"none", "none", "above", "below most", "below most", "any", "any", "any", "any"},
		api.CallAnswer: {"none", "none", "above", "below", "below most", "any", "any", "any", "any"},
		api.CallClose:  {"none", "none", "none", "none", "below", "any", "none", "any", "any"},
		api.CallGive:   {"none", "none", "none", "none", "none", "any", "none", "any", "any"},
		api.CallUp:     {"none", "none", "above most", "below most", "below most", "any", "any", "any", "any"},
		6:              {"none", "none", "none", "none", "none", "none", "none", "any", "any"},
		7:              {"none", "none", "none", "none", "none", "none", "none", "none", "any"},
	} {
		for _, f := range append(filters(), great()...) {
			first := mark(0, f, call)
			if !watch.Onion([]api.Mark{first}) {
				continue
			}
			for i, word := range want {
				for _, g := range append(filters(), f) {
					onionIs(t, fits[word](f, g), first, mark(0, g, next[i]))
				}
			}
		}
	}
}

// TestL2Up: it counts as CallAnswer of MaxSieves, whatever its filter and what was ahead of it.
func TestL2Up(t *testing.T) {
	for _, f := range append(filters(), great()...) {
		up := mark(0, f, api.CallUp)
		onionIs(t, true, up, up, up)
		onionIs(t, true, mark(0, 2, api.CallAsk), up, up, mark(0, 5, api.CallAnswer))
		onionIs(t, true, mark(0, 2, api.CallAnswer), up, mark(0, 5, api.CallAnswer))
		onionIs(t, true, mark(0, 0, api.CallAnswer), up, mark(0, 5, api.CallClose))
		onionIs(t, false, up, mark(0, 6, api.CallAnswer))
		onionIs(t, false, up, mark(0, 6, api.CallClose))
		onionIs(t, false, up, mark(0, 6, api.CallAsk))
		onionIs(t, true, up, mark(0, 7, api.CallAsk))
		onionIs(t, false, mark(0, 1, api.CallClose), up)
		onionIs(t, false, mark(0, 1, api.CallGive), up)
		onionIs(t, false, mark(0, 1, 6), up)
	}
}

// TestL2Examples: whole ways in and out, and one thing of each out of order.
func TestL2Examples(t *testing.T) {
	in := []api.Mark{mark(0, 0, 1), mark(0, 2, 1), mark(0, -1, 5)}
	out := []api.Mark{mark(0, 2, 2), mark(0, 1, 2), mark(0, 2, 3), mark(0, 0, 3), mark(0, 2, 4), mark(0, 2, 4), mark(0, -1, 4)}
	with := func(l ...api.Mark) []api.Mark { return append(append(append([]api.Mark{}, in...), l...), out...) }
	onionIs(t, true, with()...)
	onionIs(t, true, with(mark(0, 5, 2))...)
	onionIs(t, true, with(mark(0, 1, 2), mark(0, 2, 1), mark(0, 3, 1), mark(0, -1, 5))...)
	onionIs(t, true, with(mark(0, 1, 2), mark(0, -1, 5))...)
	onionIs(t, false, with(mark(0, 2, 2))...) // an answer is looked at twice by the same filter
	onionIs(t, false, with(mark(0, 1, 2))...)
	onionIs(t, false, with(mark(0, 3, 1))...)
	onionIs(t, false, with(mark(0, 1, 2), mark(0, 1, 1), mark(0, -1, 5))...)
	onionIs(t, false, with(mark(0, 0, 3))...)
	onionIs(t, false, with(mark(0, -1, 4))...)
	onionIs(t, false, append(with(), mark(0, 0, 3))...)
	onionIs(t, false, append(with(), mark(0, 0, 5))...)
}

// TestL2WhoseMarks: ids mean nothing.
func TestL2WhoseMarks(t *testing.T) {
	for _, id := range append(great(), -1, 0, 1, 2) {
		onionIs(t, true, mark(id, 0, 1), mark(0, 1, 1), mark(id+1, -1, 5), mark(id, 1, 2), mark(7, 0, 2))
		onionIs(t, false, mark(id, 1, 1), mark(7, 1, 1))
		onionIs(t, false, mark(7, 1, 2), mark(id, 1, 2))
	}
}

// TestL2Great: numbers are held against each other as they are.
func TestL2Great(t *testing.T) {
	onionIs(t, true, mark(0, math.MaxInt-1, 1), mark(0, math.MaxInt, 1), mark(0, 0, 2), mark(0, math.MinInt+1, 2), mark(0, math.MinInt, 2))
	onionIs(t, false, mark(0, math.MaxInt, 1), mark(0, math.MaxInt, 1))
	onionIs(t, false, mark(0, math.MaxInt, 1), mark(0, math.MinInt, 1))
	onionIs(t, false, mark(0, math.MinInt, 2), mark(0, math.MaxInt, 2))
	onionIs(t, false, mark(0, math.MinInt, 3), mark(0, math.MaxInt, 3))
	onionIs(t, true, mark(0, math.MinInt, 2), mark(0, math.MinInt, 3))
	for _, call := range great() {
		onionIs(t, call > 0, mark(0, 0, call))
		onionIs(t, call > 0, mark(0, 0, call), mark(0, 0, call), mark(0, 5, call))
		onionIs(t, false, mark(0, 0, call), mark(0, 1, api.CallUp))
		onionIs(t, false, mark(0, 0, call), mark(0, 1, api.CallAsk))
		onionIs(t, call > 0, mark(0, 0, call), mark(0, 1, math.MaxInt))
		onionIs(t, call == math.MaxInt, mark(0, 0, math.MaxInt), mark(0, 1, call))
	}
}

// inOrder goes through the chapter's words one by one.
func inOrder(l []api.Mark) bool {
	call, filter := 1, -1
	for _, m := range l {
		switch {
		case m.Call == 5:
			if call != 1 && call != 2 {
				return false
			}
			call, filter = 2, 6
			continue
		case m.Call < call && !(m.Call == 1 && call == 2):
			return false
		case m.Call == 1 && m.Filter <= filter:
			return false
		case (m.Call == 2 || m.Call == 3) && m.Call == call && m.Filter >= filter:
			return false
		case (m.Call == 2 || m.Call == 3) && m.Call != call && m.Filter >= 6:
			return false
		}
		call, filter = m.Call, m.Filter
	}
	return true
}

// TestL2OfEvery holds lists against the chapter's words: all short ones of some marks, and long ones that stay in order mostly.
func TestL2OfEvery(t *testing.T) {
	var some []api.Mark
	for call := range 7 {
		for _, f := range []int{-1, 0, 1, 5, 6, 7} {
			some = append(some, mark(0, f, call))
		}
	}
	for _, a := range some {
		for _, b := range some {
			for _, c := range some {
				onionIs(t, inOrder([]api.Mark{a, b, c}), a, b, c)
			}
		}
	}
	r, seen := rand.New(rand.NewPCG(12, 4)), map[bool]int{}
	for range 20000 {
		var l []api.Mark
		for n := 3 + r.IntN(12); n > 0; n-- {
			m := mark(r.IntN(2), r.IntN(9)-1, r.IntN(7))
			if inOrder(append(l[:len(l):len(l)], m)) || n == 1 && r.IntN(2) == 0 {
				l = append(l, m)
			}
		}
		want := inOrder(l)
		seen[want]++
		onionIs(t, want, l...)
	}
	if seen[false] < 1000 || seen[true] < 1000 {
		t.Errorf("%v come", seen)
	}
}

// TestL2Long: the last one of many marks counts as the first one does.
func TestL2Long(t *testing.T) {
	var l []api.Mark
	for range 1 << 16 {
		l = append(l, mark(0, 1, api.CallAnswer), mark(0, 2, api.CallAsk), mark(0, 0, api.CallUp))
	}
	onionIs(t, true, l...)
	if watch.Onion(append(l, mark(0, 6, api.CallAnswer))) {
		t.Errorf("the last one is not looked at")
	}
}
