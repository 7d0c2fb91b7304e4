package chain

import (
	"slices"

	"sieveworks/api"
	"sieveworks/fault"
	"sieveworks/guard"
	"sieveworks/msg"
)

// call has a filter do what it does, or what a bad has it do in place of that; an answer of a bad comes beside DoStop.
func (t *trip) call(filter, call int, does func() (int, api.Msg)) (int, api.Msg) {
	t.mark(filter, call)
	n := slices.IndexFunc(t.conf.Bads, func(b api.Bad) bool {
		return b.ID == t.ask.ID && b.Filter == filter && b.Call == call
	})
	if n < 0 {
		return does()
	}
	bad := t.conf.Bads[n]
	out := guard.Call(filter, call, bad.Do, bad.Text)
	if out.Fault != (api.Fault{}) {
		t.note(out.Fault, call)
		return api.DoStop, fault.Answer(out.Fault)
	}
	if out.Do == api.DoStop {
		return api.DoStop, msg.Answer(200, bad.Text)
	}
	return out.Do, t.ask.Msg
}

// nothing is what a filter does in calls that nothing comes of.
func (t *trip) nothing() (int, api.Msg) {
	return api.DoNext, t.ask.Msg
}

// mark comes ahead of what the call does, so that one that panics is told too.
func (t *trip) mark(filter, call int) {
	t.world.Marks = append(t.world.Marks, api.Mark{ID: t.ask.ID, Filter: filter, Call: call})
}

// note looks for what is fatal ahead of wrapping it: then it is so in giving back too.
func (t *trip) note(f api.Fault, call int) {
	if f.Kind == api.FaultFatal {
		t.ask.Fatal = true
	}
	if call == api.CallGive {
		f.Kind, f.Inner = api.FaultRelease, f.Kind
	}
	t.ask.Faults = append(t.ask.Faults, f)
}

// fail notes a fault of no filter, and answers what who asked is told of it.
func (t *trip) fail(kind int) api.Msg {
	f := fault.New(kind)
	t.ask.Faults = append(t.ask.Faults, f)
	return fault.Answer(f)
}
