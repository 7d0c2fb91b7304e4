package chain

import (
	"sieveworks/api"
	"sieveworks/ledger"
)

// rest has the ask stand where its next call is: filters in the way that can't that call are none.
func (t *trip) rest() {
	if t.ask.Phase == api.PhaseIn {
		t.restIn()
	}
	if t.ask.Phase == api.PhaseOut && !t.restAt(api.CallAnswer) {
		t.ask.Phase, t.ask.At = api.PhaseClose, t.lastPlace()
	}
	if t.ask.Phase == api.PhaseClose && !t.restAt(api.CallClose) {
		t.ask.Phase, t.ask.At = api.PhaseGive, 0
	}
	if t.ask.Phase == api.PhaseGive && !t.holds() {
		t.ask.Phase = api.PhaseDone
	}
}

// restIn has filters Passed that can't be asked: the answer goes out through them.
func (t *trip) restIn() {
	for t.ask.At = max(t.ask.At, 0); t.ask.At < len(t.conf.Sieves); t.ask.At++ {
		if t.tells(t.ask.At, api.CallAsk) {
			return
		}
		t.ask.Passed = append(t.ask.Passed, t.ask.At)
	}
	t.ask.Phase, t.ask.At = api.PhaseUp, 0
}

// restAt tells whether there is a place, from At down, of which the filter can the call.
func (t *trip) restAt(call int) bool {
	for t.ask.At = min(t.ask.At, t.lastPlace()); t.ask.At >= 0; t.ask.At-- {
		if t.tells(t.ask.Passed[t.ask.At], call) {
			return true
		}
	}
	return false
}

// tells takes no function for one that tells of no filter that it can something.
func (t *trip) tells(filter, call int) bool {
	return t.can != nil && t.can(filter, call)
}

func (t *trip) holds() bool {
	_, ok := ledger.Last(t.world.Ledger, t.ask.ID)
	return ok
}

// lastPlace is -1 if no filter is Passed: then there is nobody to go out through.
func (t *trip) lastPlace() int {
	return len(t.ask.Passed) - 1
}

// goOut begins at the filter that was Passed last: an answer goes the other way round.
func (t *trip) goOut(m api.Msg) {
	t.ask.Phase, t.ask.At, t.ask.Msg = api.PhaseOut, t.lastPlace(), m
}

// goIn begins behind a filter that the answer has come back to; it stays Passed, those behind it do not.
func (t *trip) goIn(filter int) {
	t.ask.Passed = t.ask.Passed[:t.ask.At+1]
	t.ask.Phase, t.ask.At, t.ask.Msg = api.PhaseIn, filter+1, api.Msg{}
}
