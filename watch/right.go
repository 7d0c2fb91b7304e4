package watch

import (
	"sieveworks/api"
	"sieveworks/ledger"
)

// Right goes through Holds and Queue as a whole, not ask by ask: of many asks that would be far too slow.
func Right(s api.Server) bool {
	in, ok := queued(s)
	if !ok || !enough(s.World.Ledger) || !full(s) {
		return false
	}
	held := heldByAll(s)
	for id, f := range s.Flights {
		if f.ID != id || !askRight(f, held[id], in[id]) {
			return false
		}
	}
	return true
}

// enough tells whether no more is held than there is: a ledger that Take didn't make may have more.
func enough(l api.Ledger) bool {
	for kind := api.HoldFlight; kind <= api.HoldTimer; kind++ {
		if ledger.Count(l, kind) > l.Most[kind] {
			return false
		}
	}
	return true
}

// queued answers which asks are in Queue, and false, if there is anything else in it, or one of them twice.
func queued(s api.Server) ([]bool, bool) {
	in := make([]bool, len(s.Flights))
	for _, id := range s.World.Queue {
		if id < 0 || id >= len(in) || in[id] {
			return nil, false
		}
		in[id] = true
	}
	return in, true
}

// full tells whether nobody waits while one more could be asked.
func full(s api.Server) bool {
	return len(s.World.Queue) == 0 || ledger.Count(s.World.Ledger, api.HoldLease) >= s.Conf.Conns
}

// heldByAll is Held of each ask; what is held by others is no ask's.
func heldByAll(s api.Server) [][4]int {
	out := make([][4]int, len(s.Flights))
	for _, h := range s.World.Ledger.Holds {
		if h.ID >= 0 && h.ID < len(out) && placed(h) {
			out[h.ID][h.Kind]++
		}
	}
	return out
}

func askRight(f api.Flight, held [4]int, in bool) bool {
	switch {
	case f.Phase < api.PhaseIn || f.Phase > api.PhaseDone:
		return false
	case f.Phase == api.PhaseDone:
		return held == [4]int{} && !f.Waits && f.Msg.Status != 0
	}
	return holdsRight(f.Phase, held) && f.Waits == in && (!f.Waits || f.Phase == api.PhaseUp)
}

// holdsRight tells of an ask on its way: at PhaseGive its HoldFlight may be given back already, or not yet.
func holdsRight(phase int, held [4]int) bool {
	leases, flights := held[api.HoldLease], held[api.HoldFlight]
	if leases > 1 || leases == 1 && phase != api.PhaseUp {
		return false
	}
	return flights == 1 || flights == 0 && phase >= api.PhaseGive
}
