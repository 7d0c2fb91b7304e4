package chain

import (
	"slices"
	"strings"

	"sieveworks/api"
	"sieveworks/ledger"
	"sieveworks/msg"
	"sieveworks/pool"
	"sieveworks/sieve"
)

// noFilter stands in marks of what is no filter's call.
const noFilter = -1

// trip is an ask on its way, with what it needs there; conf is only read, world and ask are its own to change.
type trip struct {
	conf  api.Conf
	world api.World
	ask   api.Flight
	can   api.Can
	next  int // who need not wait any more
}

// step leaves all as it was beside an error.
func (t *trip) step() api.Errno {
	if t.ask.Phase == api.PhaseDone {
		return api.ErrDone
	}
	if t.ask.Waits {
		return api.ErrWait
	}
	switch t.ask.Phase {
	case api.PhaseIn:
		t.in()
	case api.PhaseUp:
		if err := t.up(); err != api.OK {
			return err
		}
	case api.PhaseOut:
		t.out()
	case api.PhaseClose:
		t.end()
	case api.PhaseGive:
		t.give()
	}
	t.rest()
	return api.OK
}

// in leaves a filter that stops the ask out of Passed: it won't see the answer.
func (t *trip) in() {
	filter := t.ask.At
	do, m := t.call(filter, api.CallAsk, func() (int, api.Msg) { return t.look(filter) })
	if do == api.DoStop {
		t.goOut(m)
		return
	}
	t.ask.Passed = append(t.ask.Passed, filter)
	t.ask.At++
}

// look has the filter itself look at the ask; a wild one goes on without a timer where none is free.
func (t *trip) look(filter int) (int, api.Msg) {
	s := at(t.conf.Sieves, filter)
	do, m, count := sieve.Ask(s, t.ask.Ask, at(t.world.Gates, filter))
	put(t.world.Gates, filter, count)
	if do != api.DoStop {
		t.ask.Ask = m
	}
	if s.Kind == api.SieveWild {
		if l, err := ledger.Take(t.world.Ledger, t.ask.ID, api.HoldTimer, filter); err == api.OK {
			t.world.Ledger = l
		}
	}
	return do, m
}

// up takes a lease in one step, and asks somebody in a later one: it may have to wait in between.
func (t *trip) up() api.Errno {
	if h, ok := ledger.Last(t.world.Ledger, t.ask.ID); !ok || h.Kind != api.HoldLease {
		return t.lease()
	}
	t.mark(noFilter, api.CallUp)
	t.goOut(t.reply())
	if w, next, err := pool.Back(t.world, t.ask.ID); err == api.OK {
		t.world, t.next = w, next
	}
	return api.OK
}

// lease has one error left to tell, which no ask of a server comes to: that it waits in the queue already, or has a lease below.
func (t *trip) lease() api.Errno {
	w, err := pool.Ask(t.world, t.ask.ID, t.conf.Waits)
	switch err {
	case api.OK:
		t.world = w
	case api.ErrWait:
		t.world, t.ask.Waits = w, true
	case api.ErrFull:
		t.mark(noFilter, api.CallUp)
		t.goOut(t.fail(api.FaultNoUp))
	default:
		return err
	}
	return api.OK
}

// reply is what who is asked at last says, be it that nobody is there, or that it failed.
func (t *trip) reply() api.Msg {
	who := slices.IndexFunc(t.conf.Ups, func(u api.Up) bool { return strings.HasPrefix(t.ask.Ask.Path, u.Path) })
	if who < 0 {
		return msg.Answer(404, "nowhere")
	}
	u, failed := t.conf.Ups[who], at(t.world.Failed, who)
	if failed < u.Fails {
		put(t.world.Failed, who, failed+1)
		return t.fail(api.FaultUp)
	}
	return msg.Answer(u.Status, u.Text)
}

// out goes on with the answer that there is where a filter would have it done again too often.
func (t *trip) out() {
	filter, ok := t.behind()
	if !ok {
		return
	}
	again := at(t.ask.Again, filter)
	do, m := t.call(filter, api.CallAnswer, func() (int, api.Msg) {
		return sieve.Answer(at(t.conf.Sieves, filter), t.ask.Msg, again)
	})
	if do == api.DoAgain && again < api.MaxCount {
		put(t.ask.Again, filter, again+1)
		t.goIn(filter)
		return
	}
	t.ask.Msg = m
	t.ask.At--
}

// end cares for no answer of the call: who asked has theirs already.
func (t *trip) end() {
	filter, ok := t.behind()
	if !ok {
		return
	}
	t.call(filter, api.CallClose, t.nothing)
	t.ask.At--
}

// behind answers the filter at place At; an ask that no server made may have none there.
func (t *trip) behind() (int, bool) {
	if t.ask.At < 0 || t.ask.At > t.lastPlace() {
		return 0, false
	}
	return t.ask.Passed[t.ask.At], true
}

// give gives back behind the call, whatever that does: else what is held could stay so.
func (t *trip) give() {
	h, ok := ledger.Last(t.world.Ledger, t.ask.ID)
	if !ok {
		return
	}
	t.call(h.Filter, api.CallGive, t.nothing)
	if l, err := ledger.Give(t.world.Ledger, t.ask.ID, h.Kind); err == api.OK {
		t.world.Ledger = l
	}
}

// at answers what stands at a place, and nothing where there is none: what no server made may lack something.
func at[T any](l []T, n int) T {
	if n >= 0 && n < len(l) {
		return l[n]
	}
	var none T
	return none
}

// put leaves a list alone that has no such place.
func put(l []int, n, count int) {
	if n >= 0 && n < len(l) {
		l[n] = count
	}
}
