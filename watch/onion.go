package watch

import "sieveworks/api"

// Onion looks at each mark and the one ahead of it: whose marks they are is all the same to it.
func Onion(l []api.Mark) bool {
	ahead := api.Mark{Filter: -1, Call: api.CallAsk}
	for _, m := range l {
		if !follows(ahead, m) {
			return false
		}
		ahead = counted(m)
	}
	return true
}

// counted has what is asked at last lie behind all filters: whatever answers next is below it.
func counted(m api.Mark) api.Mark {
	if m.Call == api.CallUp {
		return api.Mark{ID: m.ID, Filter: api.MaxSieves, Call: api.CallAnswer}
	}
	return m
}

func follows(ahead, m api.Mark) bool {
	switch m.Call {
	case api.CallUp:
		return ahead.Call == api.CallAsk || ahead.Call == api.CallAnswer
	case api.CallAsk: // behind CallAnswer too: all behind that filter is done again
		return ahead.Call <= api.CallAnswer && m.Filter > ahead.Filter
	case api.CallAnswer, api.CallClose:
		return m.Call >= ahead.Call && m.Filter < bound(ahead, m.Call)
	}
	return m.Call >= ahead.Call
}

// bound is what a filter's number must be below: another call begins at the last filter again.
func bound(ahead api.Mark, call int) int {
	if ahead.Call == call {
		return ahead.Filter
	}
	return api.MaxSieves
}
