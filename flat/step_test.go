package flat_test

import (
	"math"
	"math/rand/v2"
	"slices"
	"testing"

	"sieveworks/api"
	"sieveworks/caps"
	"sieveworks/chain"
	"sieveworks/flat"
	"sieveworks/ledger"
	"sieveworks/msg"
)

// world is one of a server of c; each of those ids holds what it does since it came.
func world(c api.Conf, ids ...int) api.World {
	w := api.World{
		Ledger: ledger.New(c.Flights, c.Conns, c.Timers), Gates: make([]int, len(c.Sieves)), Failed: make([]int, len(c.Ups)),
		Marks: []api.Mark{{ID: 70, Filter: 0, Call: api.CallAsk}},
	}
	for _, id := range ids {
		w.Ledger.Holds = append(w.Ledger.Holds, api.Hold{ID: id, Kind: api.HoldFlight, Filter: -1})
	}
	return w
}

// flight is the ask of 5, of /a, at a place of a phase, with those filters behind it.
func flight(c api.Conf, phase, at int, passed ...int) api.Flight {
	f := api.Flight{ID: 5, Phase: phase, At: at, Passed: slices.Clone(passed), Again: make([]int, len(c.Sieves)), Ask: api.Msg{Path: "/a", Heads: []api.Head{{Key: "x", Text: "y"}}, Body: []byte("four")}}
	if phase > api.PhaseUp {
		f.Msg = msg.Answer(201, "so")
	}
	return f
}

// sameWorld and sameFlight take nil and a list without entries for the same.
func sameWorld(a, b api.World) bool {
	return a.Ledger.Most == b.Ledger.Most && slices.Equal(a.Ledger.Holds, b.Ledger.Holds) && slices.Equal(a.Gates, b.Gates) &&
		slices.Equal(a.Failed, b.Failed) && slices.Equal(a.Queue, b.Queue) && slices.Equal(a.Marks, b.Marks)
}

func sameFlight(a, b api.Flight) bool {
	return a.ID == b.ID && a.Phase == b.Phase && a.At == b.At && msg.Same(a.Ask, b.Ask) && msg.Same(a.Msg, b.Msg) && slices.Equal(a.Passed, b.Passed) &&
		slices.Equal(a.Again, b.Again) && slices.Equal(a.Faults, b.Faults) && a.Waits == b.Waits && a.Fatal == b.Fatal
}

// stepIs holds what Step answers against what must come.
func stepIs(t *testing.T, tab api.Table, c api.Conf, w api.World, f api.Flight, wantW api.World, wantF api.Flight, wantNext int, wantErr api.Errno) {
	t.Helper()
	x, h, next, err := flat.Step(tab, c, w, f)
	if next != wantNext || err != wantErr || !sameWorld(x, wantW) || !sameFlight(h, wantF) {
		t.Errorf("of %+v, by %+v:\n%+v\n%+v, %d, %v comes, not\n%+v\n%+v, %d, %v", f, tab, x, h, next, err, wantW, wantF, wantNext, wantErr)
	}
}

// isTheSame holds Step by c's table against Step of chapter 8.
func isTheSame(t *testing.T, c api.Conf, w api.World, f api.Flight) {
	t.Helper()
	wantW, wantF, wantNext, wantErr := chain.Step(c, w, f)
	stepIs(t, flat.Lay(c), c, w, f, wantW, wantF, wantNext, wantErr)
}

// TestI1StepByWords: in each phase what comes is written out.
func TestI1StepByWords(t *testing.T) {
	c := wilds(2, 3, 0, 4)
	c.Timers = 0
	tab, w := flat.Lay(c), world(c, 5)
	marked := func(w api.World, filter, call int) api.World {
		w.Marks = append(slices.Clone(w.Marks), api.Mark{ID: 5, Filter: filter, Call: call})
		return w
	}
	leased := world(c, 5)
	leased.Ledger.Holds = append(leased.Ledger.Holds, api.Hold{ID: 5, Kind: api.HoldLease, Filter: -1})
	answered := flight(c, api.PhaseOut, 1, 0, 1, 2, 3)
	answered.Msg = msg.Answer(200, "yes")

	stepIs(t, tab, c, w, flight(c, api.PhaseIn, 1, 0), marked(w, 1, api.CallAsk), flight(c, api.PhaseUp, 0, 0, 1, 2, 3), -1, api.OK)
	stepIs(t, tab, c, w, flight(c, api.PhaseUp, 0, 0, 1, 2, 3), leased, flight(c, api.PhaseUp, 0, 0, 1, 2, 3), -1, api.OK)
	stepIs(t, tab, c, leased, flight(c, api.PhaseUp, 0, 0, 1, 2, 3), marked(w, -1, api.CallUp), answered, -1, api.OK)
	stepIs(t, tab, c, w, flight(c, api.PhaseOut, 1, 0, 1, 2, 3), marked(w, 1, api.CallAnswer), flight(c, api.PhaseOut, 0, 0, 1, 2, 3), -1, api.OK)
	stepIs(t, tab, c, w, flight(c, api.PhaseOut, 0, 0, 1, 2, 3), marked(w, 0, api.CallAnswer), flight(c, api.PhaseClose, 3, 0, 1, 2, 3), -1, api.OK)
	stepIs(t, tab, c, w, flight(c, api.PhaseClose, 3, 0, 1, 2, 3), marked(w, 3, api.CallClose), flight(c, api.PhaseGive, 0, 0, 1, 2, 3), -1, api.OK)
	stepIs(t, tab, c, w, flight(c, api.PhaseGive, 0, 0, 1, 2, 3), marked(world(c), -1, api.CallGive), flight(c, api.PhaseDone, 0, 0, 1, 2, 3), -1, api.OK)
	stepIs(t, tab, c, world(c), flight(c, api.PhaseDone, 0, 0, 1, 2, 3), world(c), flight(c, api.PhaseDone, 0, 0, 1, 2, 3), -1, api.ErrDone)
}

// TestI1StepWaits: one lease: who comes second waits, is told so if it goes on all the same, and need not wait any more when the first one is answered.
func TestI1StepWaits(t *testing.T) {
	c := wilds()
	tab, w := flat.Lay(c), world(c, 5, 6)
	w.Ledger.Holds = append(w.Ledger.Holds, api.Hold{ID: 6, Kind: api.HoldLease, Filter: -1})
	up := flight(c, api.PhaseUp, 0)
	waits, queued := up, w
	waits.Waits, queued.Queue = true, []int{5}
	stepIs(t, tab, c, w, up, queued, waits, -1, api.OK)
	stepIs(t, tab, c, queued, waits, queued, waits, -1, api.ErrWait)

	first, told := up, world(c, 5, 6)
	first.ID = 6
	answered := first
	answered.Phase, answered.Msg = api.PhaseGive, msg.Answer(200, "yes")
	told.Marks = append(told.Marks, api.Mark{ID: 6, Filter: -1, Call: api.CallUp})
	told.Ledger.Holds = append(told.Ledger.Holds, api.Hold{ID: 5, Kind: api.HoldLease, Filter: -1})
	stepIs(t, tab, c, queued, first, told, answered, 5, api.OK)
}

// TestI1StepIsTheSame: confs of up to two filters that can whatever they may, an ask in each phase, at each place, with each of the filters behind it that may be.
func TestI1StepIsTheSame(t *testing.T) {
	for n := range 3 {
		eachBits(n, func(bits []int) {
			c := wilds(bits...)
			leased := world(c, 5)
			leased.Ledger.Holds = append(leased.Ledger.Holds, api.Hold{ID: 5, Kind: api.HoldLease, Filter: -1})
			for _, w := range []api.World{world(c, 5), leased, world(c)} {
				for _, passed := range [][]int{nil, {0}, {0, 1}}[:n+1] {
					for phase := api.PhaseIn; phase <= api.PhaseDone; phase++ {
						for at := range n {
							isTheSame(t, c, w, flight(c, phase, at, passed[:min(at+1, len(passed))]...))
						}
						f := flight(c, phase, 0, passed...)
						isTheSame(t, c, w, f)
						f.Waits = true
						isTheSame(t, c, w, f)
					}
				}
			}
		})
	}
}

// TestI1StepByTable: what the table says counts, not what the conf's filters can, nor what Next says.
func TestI1StepByTable(t *testing.T) {
	eachBits(3, func(bits []int) {
		tab := table(bits...)
		tab.Next = []int{3, 0, 9, -1}
		can := func(filter, call int) bool {
			return filter >= 0 && filter < 3 && call >= 1 && call <= 3 && bits[filter]>>(call-1)&1 == 1
		}
		for _, c := range []api.Conf{wilds(7, 7, 7), wilds(0, 0, 0)} {
			w := world(c, 5)
			for _, f := range []api.Flight{flight(c, api.PhaseIn, 0), flight(c, api.PhaseOut, 2, 0, 1, 2), flight(c, api.PhaseClose, 2, 0, 1, 2)} {
				wantW, wantF, wantNext, wantErr := chain.By(c, w, f, can)
				stepIs(t, tab, c, w, f, wantW, wantF, wantNext, wantErr)
			}
		}
	})
}

// TestI1StepStrange: tables of no conf, of another one, and what no server made: each call ends, and none panics.
func TestI1StepStrange(t *testing.T) {
	tables := []api.Table{{}, {Next: []int{0}}, table(7), table(7, 7, 7, 7, 7, 7, 7, 7), {Can: [3][]bool{{true}, nil, {true, true}}, Next: []int{math.MaxInt, math.MinInt}}}
	for _, tab := range tables {
		for _, c := range []api.Conf{{}, wilds(), wilds(1, 2), wilds(4, 7, 0, 3)} {
			for _, w := range []api.World{{}, world(c), world(c, 5), {Queue: []int{5}}} {
				for _, phase := range []int{math.MinInt, -1, 0, 1, 2, 3, 4, 5, 6, 7, math.MaxInt} {
					for _, at := range []int{math.MinInt, -1, 0, 1, 9, math.MaxInt} {
						for _, passed := range [][]int{nil, {0, 1}, {-1, math.MaxInt, 0, math.MinInt, 3}} {
							f := flight(c, phase, at, passed...)
							wantW, wantF, wantNext, wantErr := chain.By(c, w, f, flat.By(tab))
							stepIs(t, tab, c, w, f, wantW, wantF, wantNext, wantErr)
						}
					}
				}
			}
		}
	}
}

// anyConf is a right one, with bads that are likely to be met.
func anyConf(r *rand.Rand) api.Conf {
	c := api.Conf{Flights: 4, Conns: 1 + r.IntN(2), Waits: r.IntN(3), Timers: r.IntN(api.MaxCount + 1)}
	all, _ := kinds()
	for range r.IntN(api.MaxSieves + 1) {
		c.Sieves = append(c.Sieves, all[r.IntN(len(all))])
	}
	for range r.IntN(api.MaxUps + 1) {
		c.Ups = append(c.Ups, api.Up{Path: []string{"/a", "/b", "/", ""}[r.IntN(4)], Status: 100 + r.IntN(500), Text: "up", Fails: r.IntN(3)})
	}
	for range r.IntN(api.MaxBads + 1) {
		b := api.Bad{ID: r.IntN(4), Filter: r.IntN(max(len(c.Sieves), 1)), Call: 1 + r.IntN(4), Do: r.IntN(7), Text: "oh"}
		if b.Call == api.CallGive && r.IntN(2) == 0 {
			b.Filter = -1
		}
		c.Bads = append(c.Bads, b)
	}
	return c
}

// play has asks of a conf go on in any turn, by its table, as a server would, until all are done, and calls do ahead of each step.
func play(t *testing.T, r *rand.Rand, do func(tab api.Table, c api.Conf, w api.World, f api.Flight)) {
	c := anyConf(r)
	if err, _ := caps.Wrong(c); err != api.OK {
		t.Fatalf("%v comes of %+v", err, c)
	}
	tab, w := flat.Lay(c), world(c, 0, 1, 2, 3)
	var l []api.Flight
	for id := range 4 {
		ask := api.Msg{Path: []string{"/a", "/b/c", "/"}[r.IntN(3)], Heads: []api.Head{{Key: "k", Text: []string{"v", "w"}[r.IntN(2)]}}, Body: []byte("four")[:r.IntN(5)]}
		l = append(l, chain.Start(c, w, api.Flight{ID: id, Ask: ask}, flat.By(tab)))
	}
	for left, n := 4, 0; left > 0; n++ {
		if t.Failed() || n > 20000 { // one wrong step is enough to tell, and no ask may go on for ever
			t.Fatalf("%d of %+v are not done behind %d steps", left, c, n)
		}
		id := r.IntN(4)
		do(tab, c, w, l[id])
		x, h, next, err := flat.Step(tab, c, w, l[id])
		if err != api.OK {
			continue
		}
		w, l[id] = x, h
		if next >= 0 {
			l[next].Waits = false
		}
		if h.Phase == api.PhaseDone {
			left--
		}
	}
	if len(w.Ledger.Holds) != 0 || len(w.Queue) != 0 {
		t.Errorf("%+v is left", w)
	}
}

// TestI1StepOfEvery: whole ways of many asks, step by step, by the table and by the filters; all phases come, and what keeps asks from going on.
func TestI1StepOfEvery(t *testing.T) {
	r, seen := rand.New(rand.NewPCG(9, 1)), map[string]int{}
	for range 600 {
		play(t, r, func(tab api.Table, c api.Conf, w api.World, f api.Flight) {
			isTheSame(t, c, w, f)
			_, h, next, err := flat.Step(tab, c, w, f)
			seen["phase"+string(rune('0'+f.Phase))]++
			seen["errno"+string(rune('0'+err))]++
			if next >= 0 {
				seen["next"]++
			}
			if len(h.Faults) > len(f.Faults) {
				seen["fault"+string(rune('0'+h.Faults[len(f.Faults)].Kind))]++
			}
			if f.Phase == api.PhaseOut && h.Phase <= api.PhaseUp {
				seen["again"]++
			}
		})
	}
	for _, x := range []string{"phase1", "phase2", "phase3", "phase4", "phase5", "phase6", "errno0", "errno9", "errno:", "next", "again", "fault1", "fault2", "fault3", "fault4", "fault6", "fault7"} {
		if seen[x] == 0 {
			t.Errorf("%s never came", x)
		}
	}
}
