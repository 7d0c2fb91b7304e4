package watch_test

import (
	"math"
	"math/rand/v2"
	"slices"
	"testing"

	"sieveworks/api"
	"sieveworks/front"
	"sieveworks/msg"
	"sieveworks/server"
	"sieveworks/watch"
)

// The asks of all(): one at each phase, and one that waits.
const (
	goesIn = iota
	isAsked
	waits
	goesOut
	isClosed
	gives
	gave
	isDone
)

// all has all that a right server may have: of HoldFlight, HoldLease and HoldTimer as many as there are.
func all() api.Server {
	var s api.Server
	s.Conf = api.Conf{Sieves: make([]api.Sieve, 2), Conns: 1, Waits: 1}
	s.World.Ledger.Most = [4]int{0, 6, 1, 3}
	for id, phase := range []int{1, 2, 2, 3, 4, 5, 5, 6} {
		s.Flights = append(s.Flights, api.Flight{ID: id, Phase: phase, Ask: api.Msg{Path: "/a"}, Again: make([]int, 2)})
		if id < gave {
			take(&s, id, api.HoldFlight)
		}
	}
	take(&s, goesIn, api.HoldTimer)
	take(&s, gives, api.HoldTimer)
	take(&s, gave, api.HoldTimer)
	take(&s, isAsked, api.HoldLease)
	s.Flights[waits].Waits = true
	s.World.Queue = []int{waits}
	s.Flights[isDone].Msg = msg.Answer(200, "yes")
	return s
}

func take(s *api.Server, id, kind int) {
	s.World.Ledger.Holds = append(s.World.Ledger.Holds, hold(id, kind, -1))
}

// give has id hold nothing of a kind any more.
func give(s *api.Server, id, kind int) {
	s.World.Ledger.Holds = slices.DeleteFunc(s.World.Ledger.Holds, func(h api.Hold) bool { return h.ID == id && h.Kind == kind })
}

// with is all(), but for what change does to it.
func with(change func(s *api.Server)) api.Server {
	s := all()
	change(&s)
	return s
}

func rightIs(t *testing.T, want bool, s api.Server) {
	t.Helper()
	if got := watch.Right(s); got != want {
		t.Errorf("%+v: %v comes", s, got)
	}
	if want != right(s) {
		t.Errorf("%+v: the chapter's words say %v", s, !want)
	}
}

// right goes through the chapter's words one by one.
func right(s api.Server) bool {
	h := s.World.Ledger.Holds
	held := func(id, kind int) int {
		n := 0
		for _, x := range h {
			if (x.ID == id || id < 0) && x.Kind == kind {
				n++
			}
		}
		return n
	}
	for kind := 1; kind <= 3; kind++ {
		if held(-1, kind) > s.World.Ledger.Most[kind] {
			return false
		}
	}
	for i, id := range s.World.Queue {
		if id < 0 || id >= len(s.Flights) || slices.Contains(s.World.Queue[:i], id) {
			return false
		}
	}
	if len(s.World.Queue) > 0 && held(-1, 2) < s.Conf.Conns {
		return false
	}
	for n, f := range s.Flights {
		in := slices.Contains(s.World.Queue, n)
		switch {
		case f.ID != n, f.Phase < 1, f.Phase > 6:
			return false
		case f.Phase == 6:
			if held(n, 0)+held(n, 1)+held(n, 2)+held(n, 3) > 0 || f.Waits || f.Msg.Status == 0 {
				return false
			}
		case held(n, 2) > 1, held(n, 2) > 0 && f.Phase != 2:
			return false
		case held(n, 1) > 1, held(n, 1) < 1 && f.Phase < 5:
			return false
		case f.Waits != in, f.Waits && f.Phase != 2:
			return false
		}
	}
	return true
}

// TestL1RightNoAsks: without asks, what is held and Queue count alone.
func TestL1RightNoAsks(t *testing.T) {
	rightIs(t, true, api.Server{})
	rightIs(t, true, api.Server{World: api.World{Queue: []int{}, Marks: []api.Mark{mark(1, 1, 1)}}, Flights: []api.Flight{}})
	for _, id := range append(great(), -1, 0, 1) {
		rightIs(t, false, api.Server{World: api.World{Queue: []int{id}}})
	}
	rightIs(t, false, holding(hold(0, 1, -1)))
	rightIs(t, true, holding(hold(0, 0, -1)))
	rightIs(t, true, holding(hold(0, 4, -1)))
	s := holding(hold(0, 1, -1), hold(9, 2, -1), hold(-1, 3, 2))
	s.World.Ledger.Most = [4]int{0, 1, 1, 1}
	rightIs(t, true, s)
}

// TestL1RightMost: as many held as there are, and one more, of each kind; of others there is no Most.
func TestL1RightMost(t *testing.T) {
	rightIs(t, true, all())
	for kind := api.HoldFlight; kind <= api.HoldTimer; kind++ {
		for n := range 4 {
			l := slices.Repeat([]api.Hold{hold(-1, kind, -1)}, n)
			for most := -1; most <= 4; most++ {
				s := holding(l...)
				s.World.Ledger.Most[kind] = most
				rightIs(t, n <= most, s)
			}
		}
		rightIs(t, false, with(func(s *api.Server) { s.World.Ledger.Most[kind]-- }))
		rightIs(t, true, with(func(s *api.Server) { s.World.Ledger.Most[kind]++ }))
		rightIs(t, false, with(func(s *api.Server) { take(s, -1, kind) }))
		rightIs(t, false, with(func(s *api.Server) { take(s, 99, kind) }))
		rightIs(t, true, with(func(s *api.Server) { s.World.Ledger.Most[kind]++; take(s, 99, kind) }))
		rightIs(t, false, with(func(s *api.Server) { s.World.Ledger.Most[kind] = math.MinInt }))
		rightIs(t, true, with(func(s *api.Server) { s.World.Ledger.Most[kind] = math.MaxInt }))
	}
	for _, kind := range append(great(), -2, -1, 0, 4, 5) {
		rightIs(t, true, with(func(s *api.Server) { take(s, 99, kind) }))
		rightIs(t, true, with(func(s *api.Server) { take(s, kind, kind) }))
	}
	rightIs(t, true, with(func(s *api.Server) { s.World.Ledger.Most[0] = -1 }))
}

// TestL1RightQueue: numbers of asks, each once.
func TestL1RightQueue(t *testing.T) {
	for _, id := range append(great(), -1, -2, 8, 9, waits) {
		rightIs(t, false, with(func(s *api.Server) { s.World.Queue = []int{waits, id} }))
		rightIs(t, false, with(func(s *api.Server) { s.World.Queue = []int{id, waits} }))
	}
	two := func(s *api.Server) {
		s.Flights[isAsked+2] = api.Flight{ID: isAsked + 2, Phase: api.PhaseUp, Waits: true}
		s.World.Queue = []int{isAsked + 2, waits}
	}
	rightIs(t, true, with(two))
	rightIs(t, true, with(func(s *api.Server) { two(s); slices.Reverse(s.World.Queue) }))
	rightIs(t, false, with(func(s *api.Server) { two(s); s.World.Queue = append(s.World.Queue, waits) }))
	rightIs(t, false, with(func(s *api.Server) { two(s); s.World.Queue = append(s.World.Queue, isAsked+2) }))
	rightIs(t, false, with(func(s *api.Server) { two(s); s.World.Queue = append(s.World.Queue, 8) }))
}

// TestL1RightConns: who waits must have as many leases held as Conns; if nobody does, none need be held.
func TestL1RightConns(t *testing.T) {
	for held := range 4 {
		for conns := -1; conns <= 4; conns++ {
			some := with(func(s *api.Server) {
				give(s, isAsked, api.HoldLease)
				for range held {
					take(s, 99, api.HoldLease)
				}
				s.World.Ledger.Most[api.HoldLease] = 4
				s.Conf.Conns = conns
			})
			rightIs(t, held >= conns, some)
			some.World.Queue, some.Flights[waits].Waits = nil, false
			rightIs(t, true, some)
		}
	}
	rightIs(t, false, with(func(s *api.Server) { s.Conf.Conns = math.MaxInt }))
	rightIs(t, true, with(func(s *api.Server) { s.Conf.Conns = math.MinInt }))
}

// TestL1RightID: an ask's ID is its number, whichever ask it is.
func TestL1RightID(t *testing.T) {
	for at := range all().Flights {
		for _, id := range append(great(), -1, at-1, at+1, at+256, 8) {
			rightIs(t, false, with(func(s *api.Server) { s.Flights[at].ID = id }))
		}
	}
	rightIs(t, false, with(func(s *api.Server) { s.Flights[gave].ID, s.Flights[gives].ID = gives, gave }))
	rightIs(t, false, with(func(s *api.Server) { s.Flights = s.Flights[1:] }))
}

// TestL1RightPhase: one that there is, whichever ask is at it.
func TestL1RightPhase(t *testing.T) {
	for at := range all().Flights {
		for _, phase := range append(great(), -1, 0, 7, 8) {
			rightIs(t, false, with(func(s *api.Server) { s.Flights[at].Phase = phase }))
		}
	}
	for phase := -1; phase <= 8; phase++ {
		s := api.Server{Flights: []api.Flight{{Phase: phase, Msg: msg.Answer(200, "")}}}
		rightIs(t, phase == 5 || phase == 6, s)
		take(&s, 0, api.HoldFlight)
		s.World.Ledger.Most[api.HoldFlight] = 1
		rightIs(t, phase >= 1 && phase <= 5, s)
	}
}

// TestL1RightDone: nothing is held of kinds 0 to 3, it does not wait, and has an answer.
func TestL1RightDone(t *testing.T) {
	for kind := -1; kind <= 5; kind++ {
		rightIs(t, kind < 0 || kind > 3, with(func(s *api.Server) {
			s.World.Ledger.Most = [4]int{9, 9, 9, 9}
			take(s, isDone, kind)
		}))
	}
	for _, kind := range great() {
		rightIs(t, true, with(func(s *api.Server) { take(s, isDone, kind) }))
	}
	rightIs(t, false, with(func(s *api.Server) { s.Flights[isDone].Waits = true }))
	rightIs(t, false, with(func(s *api.Server) {
		s.Flights[isDone].Waits = true
		s.World.Queue = append(s.World.Queue, isDone)
	}))
	rightIs(t, false, with(func(s *api.Server) { s.Flights[isDone].Msg.Status = 0 }))
	rightIs(t, false, with(func(s *api.Server) { s.Flights[isDone].Msg = api.Msg{Path: "/a", Body: []byte("yes")} }))
	for _, status := range append(great(), -1, 1, 100, 599, 600) {
		rightIs(t, true, with(func(s *api.Server) { s.Flights[isDone].Msg.Status = status }))
	}
	for id := range isDone {
		rightIs(t, true, with(func(s *api.Server) { s.Flights[id].Msg = msg.Answer(200, "yes") }))
		rightIs(t, true, with(func(s *api.Server) { take(s, id, 0) }))
	}
}

// TestL1RightDoneInQueue: what stands behind "else" is asked of no ask that is done; of these it is asked that they do not Wait.
func TestL1RightDoneInQueue(t *testing.T) {
	rightIs(t, true, with(func(s *api.Server) { s.World.Queue = append(s.World.Queue, isDone) }))
}

// TestL1RightLease: no more than one, and one only at PhaseUp.
func TestL1RightLease(t *testing.T) {
	for phase := api.PhaseIn; phase <= api.PhaseGive; phase++ {
		for n := range 4 {
			rightIs(t, n == 0 || n == 1 && phase == api.PhaseUp, with(func(s *api.Server) {
				s.Flights[goesIn].Phase = phase
				s.World.Ledger.Most[api.HoldLease] = 9
				for range n {
					take(s, goesIn, api.HoldLease)
				}
			}))
		}
	}
	for id := range isDone {
		rightIs(t, id == waits, with(func(s *api.Server) {
			s.World.Ledger.Most[api.HoldLease] = 9
			take(s, id, api.HoldLease)
		}))
	}
}

// TestL1RightFlight: no more than one, and one ahead of PhaseGive.
func TestL1RightFlight(t *testing.T) {
	for phase := api.PhaseIn; phase <= api.PhaseGive; phase++ {
		for n := range 4 {
			rightIs(t, n == 1 || n == 0 && phase == api.PhaseGive, with(func(s *api.Server) {
				s.Flights[goesIn].Phase = phase
				s.World.Ledger.Most[api.HoldFlight] = 9
				give(s, goesIn, api.HoldFlight)
				for range n {
					take(s, goesIn, api.HoldFlight)
				}
			}))
		}
	}
	for id := range isDone {
		more := with(func(s *api.Server) {
			s.World.Ledger.Most[api.HoldFlight] = 9
			take(s, id, api.HoldFlight)
		})
		rightIs(t, id == gave, more)
		rightIs(t, id == gives || id == gave, with(func(s *api.Server) { give(s, id, api.HoldFlight) }))
	}
}

// TestL1RightTimer: of these an ask that is not done may hold any, at any phase.
func TestL1RightTimer(t *testing.T) {
	for id := range all().Flights {
		for n := 1; n < 4; n++ {
			rightIs(t, id != isDone, with(func(s *api.Server) {
				s.World.Ledger.Most[api.HoldTimer] = 9
				for range n {
					take(s, id, api.HoldTimer)
				}
			}))
		}
	}
}

// TestL1RightWaits: just if it is in Queue, and only at PhaseUp.
func TestL1RightWaits(t *testing.T) {
	for phase := api.PhaseIn; phase <= api.PhaseGive; phase++ {
		for _, says := range []bool{false, true} {
			for _, in := range []bool{false, true} {
				rightIs(t, says == in && (phase == api.PhaseUp || !says), with(func(s *api.Server) {
					s.Flights[goesIn].Phase = phase
					s.Flights[goesIn].Waits = says
					if in {
						s.World.Queue = append(s.World.Queue, goesIn)
					}
				}))
			}
		}
	}
	rightIs(t, false, with(func(s *api.Server) { s.World.Queue = nil }))
	rightIs(t, false, with(func(s *api.Server) { s.World.Queue[0] = isAsked }))
	rightIs(t, false, with(func(s *api.Server) { s.Flights[waits].Waits = false }))
	for id := range isDone {
		rightIs(t, id == waits, with(func(s *api.Server) { s.Flights[id].Waits = true }))
		rightIs(t, id == isAsked, with(func(s *api.Server) {
			s.Flights[id].Waits = true
			s.World.Queue = append(s.World.Queue, id)
		}))
	}
}

// TestL1RightElse: what no word names may stand there as it likes.
func TestL1RightElse(t *testing.T) {
	for _, n := range append(great(), -1, 0, 1) {
		rightIs(t, true, with(func(s *api.Server) {
			s.Conf.Flights, s.Conf.Waits, s.Conf.Timers = n, n, n
			s.World.Gates, s.World.Failed = []int{n, n}, []int{n}
			s.World.Marks = []api.Mark{mark(n, n, n), mark(0, n, n)}
			for id := range s.Flights {
				f := &s.Flights[id]
				f.At, f.Passed, f.Again, f.Fatal = n, []int{n}, []int{n}, true
				f.Faults, f.Ask = []api.Fault{{Kind: n}}, api.Msg{Status: n}
			}
			for i := range s.World.Ledger.Holds {
				s.World.Ledger.Holds[i].Filter = n
			}
		}))
	}
}

// bend changes one thing of a server, to something that is near.
func bend(r *rand.Rand, s *api.Server) {
	n := r.IntN(len(s.Flights)+2) - 1
	if r.IntN(2) == 0 || n < 0 || n >= len(s.Flights) {
		bendWorld(r, s, n)
		return
	}
	f := &s.Flights[n]
	switch r.IntN(6) {
	case 0:
		f.ID = r.IntN(4)
	case 1, 2:
		f.Phase = r.IntN(9) - 1
	case 3, 4:
		f.Waits = !f.Waits
	default:
		f.Msg.Status = r.IntN(2) * 200
	}
}

func bendWorld(r *rand.Rand, s *api.Server, n int) {
	l := &s.World.Ledger
	switch r.IntN(6) {
	case 0:
		s.World.Queue = append(s.World.Queue, n)
	case 1:
		if len(s.World.Queue) > 0 {
			s.World.Queue = s.World.Queue[1:]
		}
	case 2:
		l.Most[r.IntN(4)] += r.IntN(3) - 1
	case 3:
		s.Conf.Conns = r.IntN(4)
	case 4:
		take(s, n, r.IntN(6)-1)
	default:
		if len(l.Holds) > 0 {
			at := r.IntN(len(l.Holds))
			l.Holds = slices.Delete(l.Holds, at, at+1)
		}
	}
}

// TestL1RightOfEvery holds servers that were played, and all(), each with some things bent, against the chapter's words.
func TestL1RightOfEvery(t *testing.T) {
	r, seen := rand.New(rand.NewPCG(12, 5)), map[bool]int{}
	try := func(s api.Server) {
		s = server.Own(s)
		for range 1 + r.IntN(3) {
			bend(r, &s)
		}
		want := right(s)
		seen[want]++
		rightIs(t, want, s)
	}
	plays(t, 6, func(s api.Server) {
		try(s)
		try(all())
	})
	if seen[false] < 5000 || seen[true] < 5000 {
		t.Errorf("%v come", seen)
	}
}

// TestL1RightLong: of many asks the last one counts as the first one does, and it doesn't take long.
func TestL1RightLong(t *testing.T) {
	const n = 1 << 17
	var s api.Server
	for id := range n {
		s.Flights = append(s.Flights, api.Flight{ID: id, Phase: api.PhaseUp, Waits: true})
		s.World.Queue = append(s.World.Queue, n-1-id)
		take(&s, id, api.HoldFlight)
	}
	s.World.Ledger.Most[api.HoldFlight] = n
	for _, change := range []func(s *api.Server){
		func(s *api.Server) { s.World.Queue[n-1] = 1 },
		func(s *api.Server) { s.Flights[n-1].Waits = false },
		func(s *api.Server) { s.World.Ledger.Holds[n-1].ID = 0 },
		func(s *api.Server) { s.World.Ledger.Most[api.HoldFlight]-- },
		func(s *api.Server) { s.Conf.Conns = 1 },
	} {
		bent := server.Own(s)
		change(&bent)
		if !watch.Right(s) || watch.Right(bent) {
			t.Errorf("%v of it as it is, %v of it bent", watch.Right(s), watch.Right(bent))
		}
	}
}

// TestL1RightExample: one may be asked: the second one waits, and is next.
func TestL1RightExample(t *testing.T) {
	c := api.Conf{Ups: []api.Up{{Path: "/", Status: 200}}, Flights: 2, Conns: 1, Waits: 1}
	ask, goes := api.Step{Kind: api.StepAsk, Msg: api.Msg{Path: "/a"}}, func(n int) api.Step { return api.Step{Kind: api.StepGo, N: n} }
	s, _, _ := front.Play(c, []api.Step{ask, ask, goes(0), goes(1)}, false)
	rightIs(t, true, s)
	heldIs(t, s, 0, [4]int{0, 1, 1, 0})
	heldIs(t, s, 1, [4]int{0, 1, 0, 0})
	x := server.Own(s)
	give(&x, 0, api.HoldLease)
	rightIs(t, false, x) // it waits, and one could be asked
	x = server.Own(s)
	x.Flights[1].Waits = false
	rightIs(t, false, x)
	s, _ = front.Finish(s, false)
	rightIs(t, true, s)
	traceIs(t, s, 1, mark(1, -1, 5), mark(1, -1, 4))
}
