package server

import (
	"sieveworks/api"
	"sieveworks/chain"
	"sieveworks/fault"
	"sieveworks/flat"
	"sieveworks/ledger"
	"sieveworks/msg"
)

// noFilter stands in the hold of a flight: it is taken for the ask itself.
const noFilter = -1

// change leaves s as it was beside an error.
func change(s *api.Server, step api.Step, table bool) api.Errno {
	switch step.Kind {
	case api.StepAsk:
		return come(s, step.Msg)
	case api.StepGo:
		return goOn(s, step.N, table)
	case api.StepTick:
		clear(s.World.Gates)
		return api.OK
	}
	return api.ErrKind
}

// come has an ask be there even if there are too many: it is answered then, and takes nothing.
func come(s *api.Server, m api.Msg) api.Errno {
	if msg.Wrong(m) != api.OK || m.Status != 0 {
		return api.ErrForm
	}
	f := api.Flight{ID: len(s.Flights), Ask: msg.Own(m)}
	l, err := ledger.Take(s.World.Ledger, f.ID, api.HoldFlight, noFilter)
	if err != api.OK {
		s.Flights = append(s.Flights, refused(s.Conf, f))
		return api.OK
	}
	s.World.Ledger = l
	s.Flights = append(s.Flights, chain.Start(s.Conf, s.World, f, chain.Asked(s.Conf)))
	return api.OK
}

// refused is an ask that no filter has seen.
func refused(c api.Conf, f api.Flight) api.Flight {
	over := fault.New(api.FaultOverload)
	f.Phase = api.PhaseDone
	f.Msg = fault.Answer(over)
	f.Faults = []api.Fault{over}
	f.Again = make([]int, len(c.Sieves))
	return f
}

// goOn may free another ask from waiting: a step changes its own ask alone, so that is left to be done here.
func goOn(s *api.Server, n int, table bool) api.Errno {
	if !has(s, n) {
		return api.ErrNone
	}
	w, f, next, err := stepOf(s.Conf, s.World, s.Flights[n], table)
	if err != api.OK {
		return err
	}
	s.World, s.Flights[n] = w, f
	if has(s, next) {
		s.Flights[next].Waits = false
	}
	return api.OK
}

// stepOf lays the table anew each time: a server has no room to keep one.
func stepOf(c api.Conf, w api.World, f api.Flight, table bool) (api.World, api.Flight, int, api.Errno) {
	if table {
		return flat.Step(flat.Lay(c), c, w, f)
	}
	return chain.Step(c, w, f)
}

// has tells whether there is an ask of that number; of nobody (-1) there is none.
func has(s *api.Server, n int) bool {
	return n >= 0 && n < len(s.Flights)
}
