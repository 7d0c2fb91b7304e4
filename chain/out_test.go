package chain_test

import (
	"math"
	"testing"

	"sieveworks/api"
	"sieveworks/chain"
	"sieveworks/msg"
)

// TestH4Answer: what each filter makes of an answer, at the last place and at the first one.
func TestH4Answer(t *testing.T) {
	l := sieves()
	for _, s := range []api.Sieve{l[1], l[5], wild(2), wild(3), wild(6), wild(7)} {
		c := conf(s, l[0], s)
		w := world(c, 5)
		f := flight(c, 5, api.PhaseOut, 2, 0, 1, 2)
		want := at(f, api.PhaseOut, 0)
		if s.Kind == api.SieveMark {
			want.Msg = msg.Set(want.Msg, "k", "v")
		}
		stepIs(t, c, w, f, marked(w, 5, 2, api.CallAnswer), want, -1, api.OK)
		want = at(want, api.PhaseGive, 0)
		if chain.Asked(c)(2, api.CallClose) {
			want = at(want, api.PhaseClose, 2)
		}
		stepIs(t, c, w, at(f, api.PhaseOut, 0), marked(w, 5, 0, api.CallAnswer), want, -1, api.OK)
	}
}

// TestH4FilterOfPlace: it is the filter at that place of Passed that is called, not the one of that number.
func TestH4FilterOfPlace(t *testing.T) {
	c := wilds(4)
	c.Sieves[3] = sieves()[1]
	c.Bads = []api.Bad{{ID: 5, Filter: 1, Call: api.CallAnswer, Do: api.DoStop, Text: "oh"}, {ID: 5, Filter: 1, Call: api.CallClose, Do: api.DoFail}}
	w := world(c, 5)
	f := flight(c, 5, api.PhaseOut, 1, 0, 3)
	want := at(f, api.PhaseOut, 0)
	want.Msg = msg.Set(f.Msg, "k", "v")
	stepIs(t, c, w, f, marked(w, 5, 3, api.CallAnswer), want, -1, api.OK)
	f = flight(c, 5, api.PhaseClose, 1, 0, 2)
	stepIs(t, c, w, f, marked(w, 5, 2, api.CallClose), at(f, api.PhaseClose, 0), -1, api.OK)
	c.Bads = []api.Bad{{ID: 5, Filter: 1, Call: api.CallAnswer, Do: api.DoAgain}}
	f = flight(c, 5, api.PhaseOut, 0, 1, 3)
	want = at(f, api.PhaseIn, 2)
	want.Passed, want.Again, want.Msg = []int{1}, []int{0, 1, 0, 0}, api.Msg{}
	stepIs(t, c, w, f, marked(w, 5, 1, api.CallAnswer), want, -1, api.OK)
}

// TestH4BadAnswers: each Do of a bad in CallAnswer, of each filter that can look at answers: what that would do by itself is not done.
func TestH4BadAnswers(t *testing.T) {
	l := sieves()
	for _, s := range []api.Sieve{l[1], l[5], wild(2), wild(7)} {
		for _, do := range dos() {
			for _, id := range great() {
				c := conf(wild(7), s, l[0])
				c.Bads = []api.Bad{{ID: id, Filter: 1, Call: api.CallAnswer, Do: do, Text: "oh"}}
				w := world(c, id)
				f := flight(c, id, api.PhaseOut, 1, 0, 1, 2)
				f.Msg = msg.Answer(500, "no")
				bad, status, text := told(1, api.CallAnswer, do)
				want := at(f, api.PhaseOut, 0)
				if status != 0 {
					want = says(f, api.PhaseOut, 0, status, text)
				}
				if bad.Kind != 0 {
					want = faulty(want, bad)
				}
				want.Fatal = do == api.DoFatal
				if do == api.DoAgain {
					want = at(f, api.PhaseIn, 2)
					want.Passed, want.Again, want.Msg = []int{0, 1}, []int{0, 1, 0}, api.Msg{}
				}
				stepIs(t, c, w, f, marked(w, id, 1, api.CallAnswer), want, -1, api.OK)
			}
		}
	}
}

// TestH4BadAnswerOfAnother: a bad of another ask, filter or call does nothing; of two the first one counts.
func TestH4BadAnswerOfAnother(t *testing.T) {
	c := conf(sieves()[1], sieves()[0])
	c.Bads = []api.Bad{
		{ID: 4, Filter: 0, Call: 2, Do: 1}, {ID: 5, Filter: 1, Call: 2, Do: 1}, {ID: 5, Filter: 0, Call: 1, Do: 1}, {ID: 5, Filter: 0, Call: 3, Do: 1},
		{ID: 5, Filter: 0, Call: 4, Do: 1}, {ID: 5, Filter: -1, Call: 2, Do: 1},
	}
	w := world(c, 5)
	f := flight(c, 5, api.PhaseOut, 0, 0, 1)
	want := at(f, api.PhaseGive, 0)
	want.Msg = msg.Set(f.Msg, "k", "v")
	stepIs(t, c, w, f, marked(w, 5, 0, api.CallAnswer), want, -1, api.OK)
	c.Bads = append(c.Bads, api.Bad{ID: 5, Filter: 0, Call: 2, Do: api.DoStop, Text: "one"}, api.Bad{ID: 5, Filter: 0, Call: 2, Do: api.DoFatal})
	stepIs(t, c, w, f, marked(w, 5, 0, api.CallAnswer), says(f, api.PhaseGive, 0, 200, "one"), -1, api.OK)
}

// TestH4Again: how often a filter has had it done again: below the most, at it, and above it; how often others have is nothing to it.
func TestH4Again(t *testing.T) {
	for again := range api.MaxCount + 3 {
		c := wilds(4)
		c.Bads = []api.Bad{{ID: 5, Filter: 1, Call: api.CallAnswer, Do: api.DoAgain, Text: "oh"}}
		w := world(c, 5)
		f := flight(c, 5, api.PhaseOut, 1, 0, 1, 2, 3)
		f.Again = []int{api.MaxCount, again, 9, 0}
		f.Msg = msg.Set(f.Msg, "q", "r")
		f.Faults = []api.Fault{{Kind: api.FaultUp, Filter: -1}}
		want := at(f, api.PhaseOut, 0)
		if again < api.MaxCount {
			want = at(f, api.PhaseIn, 2)
			want.Passed, want.Again, want.Msg = []int{0, 1}, []int{api.MaxCount, again + 1, 9, 0}, api.Msg{}
		}
		stepIs(t, c, w, f, marked(w, 5, 1, api.CallAnswer), want, -1, api.OK)
	}
}

// TestH4Retry: a filter that has answers from 500 on be asked for again, so many times, has it done by itself.
func TestH4Retry(t *testing.T) {
	for n := range api.MaxCount + 1 {
		for again := range api.MaxCount + 2 {
			for _, status := range []int{100, 200, 499, 500, 502, 599} {
				c := conf(sieves()[1], api.Sieve{Kind: api.SieveRetry, N: n}, sieves()[0])
				w := world(c, 5)
				f := flight(c, 5, api.PhaseOut, 1, 0, 1, 2)
				f.Msg, f.Again = msg.Answer(status, "so"), []int{3, again, 4}
				want := at(f, api.PhaseOut, 0)
				if status >= 500 && again < n {
					want = at(f, api.PhaseIn, 2)
					want.Passed, want.Again, want.Msg = []int{0, 1}, []int{3, again + 1, 4}, api.Msg{}
				}
				stepIs(t, c, w, f, marked(w, 5, 1, api.CallAnswer), want, -1, api.OK)
			}
		}
	}
}

// TestH4AgainAtPlaces: at the first place and at others Passed ends there; the ask goes in behind that filter, and rests.
func TestH4AgainAtPlaces(t *testing.T) {
	for _, x := range []struct {
		place  int
		can    int
		want   []int
		phase  int
		wantAt int
	}{
		{0, 7, []int{0}, api.PhaseIn, 1}, {1, 7, []int{0, 1}, api.PhaseIn, 2}, {2, 7, []int{0, 1, 2}, api.PhaseIn, 3}, {3, 7, []int{0, 1, 2, 3}, api.PhaseUp, 0},
		{0, 6, []int{0, 1, 2, 3}, api.PhaseUp, 0}, {1, 6, []int{0, 1, 2, 3}, api.PhaseUp, 0}, {3, 6, []int{0, 1, 2, 3}, api.PhaseUp, 0},
	} {
		c := conf(wild(x.can), wild(x.can), wild(x.can), wild(x.can))
		c.Bads = []api.Bad{{ID: 5, Filter: x.place, Call: api.CallAnswer, Do: api.DoAgain}}
		w := world(c, 5)
		f := flight(c, 5, api.PhaseOut, x.place, 0, 1, 2, 3)
		want := at(f, x.phase, x.wantAt)
		want.Passed, want.Msg, want.Again[x.place] = x.want, api.Msg{}, 1
		stepIs(t, c, w, f, marked(w, 5, x.place, api.CallAnswer), want, -1, api.OK)
	}
	c := conf(wild(3), wild(2), wild(2), wild(3)) // behind one place filters are Passed anew, up to the next one that can be asked
	c.Bads = []api.Bad{{ID: 5, Filter: 0, Call: api.CallAnswer, Do: api.DoAgain}}
	w := world(c, 5)
	f := flight(c, 5, api.PhaseOut, 0, 0, 1, 2, 3)
	want := at(f, api.PhaseIn, 3)
	want.Passed, want.Msg, want.Again[0] = []int{0, 1, 2}, api.Msg{}, 1
	stepIs(t, c, w, f, marked(w, 5, 0, api.CallAnswer), want, -1, api.OK)
}

// TestH4AgainOfAStop: an ask that was stopped ahead of a filter goes in through that one now.
func TestH4AgainOfAStop(t *testing.T) {
	c := conf(api.Sieve{Kind: api.SieveRetry, N: 1}, wild(3))
	c.Bads = []api.Bad{{ID: 5, Filter: 1, Call: api.CallAsk, Do: api.DoPanic, Text: "oh"}}
	w := world(c, 5)
	f := flight(c, 5, api.PhaseIn, 1, 0)
	out := faulty(says(f, api.PhaseOut, 0, 500, "panic"), api.Fault{Kind: api.FaultPanic, Filter: 1, Call: api.CallAsk, Text: "oh"})
	w1 := marked(w, 5, 1, api.CallAsk)
	stepIs(t, c, w, f, w1, out, -1, api.OK)
	in := at(out, api.PhaseIn, 1)
	in.Msg, in.Again = api.Msg{}, []int{1, 0}
	w2 := marked(w1, 5, 0, api.CallAnswer)
	stepIs(t, c, w1, out, w2, in, -1, api.OK)
	again := faulty(says(in, api.PhaseOut, 0, 500, "panic"), api.Fault{Kind: api.FaultPanic, Filter: 1, Call: api.CallAsk, Text: "oh"})
	w3 := marked(w2, 5, 1, api.CallAsk)
	stepIs(t, c, w2, in, w3, again, -1, api.OK)
	stepIs(t, c, w3, again, marked(w3, 5, 0, api.CallAnswer), at(again, api.PhaseGive, 0), -1, api.OK)
}

// TestH4AgainKeepsHolds: what a wild filter took stays taken where it is done again, and it takes one more.
func TestH4AgainKeepsHolds(t *testing.T) {
	c := conf(api.Sieve{Kind: api.SieveRetry, N: 1}, wild(1))
	w := holding(world(c, 5), 5, api.HoldTimer, 1)
	f := flight(c, 5, api.PhaseOut, 0, 0, 1)
	f.Msg = msg.Answer(503, "")
	in := at(f, api.PhaseIn, 1)
	in.Msg, in.Passed, in.Again = api.Msg{}, []int{0}, []int{1, 0}
	w1 := marked(w, 5, 0, api.CallAnswer)
	stepIs(t, c, w, f, w1, in, -1, api.OK)
	stepIs(t, c, w1, in, holding(marked(w1, 5, 1, api.CallAsk), 5, api.HoldTimer, 1), passes(in, 1, api.PhaseUp, 0), -1, api.OK)
}

// TestH4Close: each Do of a bad in CallClose: a fault is noted, the answer is as it was, and the next one is closed.
func TestH4Close(t *testing.T) {
	for _, do := range append(dos(), 100) { // 100: a bad of another ask
		for _, id := range great() {
			for place := range 3 {
				c := conf(wild(4), wild(7), wild(5))
				c.Bads = []api.Bad{{ID: id, Filter: place, Call: api.CallClose, Do: do, Text: "oh"}}
				w := world(c, id)
				f := flight(c, id, api.PhaseClose, place, 0, 1, 2)
				want := at(f, api.PhaseClose, place-1)
				if place == 0 {
					want = at(f, api.PhaseGive, 0)
				}
				if do == 100 {
					c.Bads[0].ID = id ^ 1
				} else if bad, _, _ := told(place, api.CallClose, do); bad.Kind != 0 {
					want = faulty(want, bad)
				}
				want.Fatal = do == api.DoFatal
				stepIs(t, c, w, f, marked(w, id, place, api.CallClose), want, -1, api.OK)
			}
		}
	}
}

// TestH4Give: each Do of a bad in CallGive: what was taken last is given, whatever the call does; a fault is wrapped.
func TestH4Give(t *testing.T) {
	for _, do := range append(dos(), 100) { // 100: a bad of another ask
		for _, id := range great() {
			for _, x := range []struct{ kind, filter int }{{api.HoldTimer, 0}, {api.HoldTimer, 2}, {api.HoldFlight, -1}, {api.HoldLease, -1}} {
				c := wilds(3)
				c.Bads = []api.Bad{{ID: id, Filter: x.filter, Call: api.CallGive, Do: do, Text: "oh"}}
				f := flight(c, id, api.PhaseGive, 0, 0, 1, 2)
				for _, rest := range []api.World{world(c, 7), world(c, id), holding(world(c, 7, id), id, api.HoldTimer, 1)} {
					want := at(f, api.PhaseGive, 0)
					if len(rest.Ledger.Holds) == 1 && rest.Ledger.Holds[0].ID == 7 {
						want = at(f, api.PhaseDone, 0)
					}
					if do == 100 {
						c.Bads[0].ID = id ^ 1
					} else if bad, _, _ := told(x.filter, api.CallGive, do); bad.Kind != 0 {
						want = faulty(want, api.Fault{Kind: api.FaultRelease, Filter: bad.Filter, Call: bad.Call, Text: bad.Text, Inner: bad.Kind})
					}
					want.Fatal = do == api.DoFatal
					stepIs(t, c, holding(rest, id, x.kind, x.filter), f, marked(rest, id, x.filter, api.CallGive), want, -1, api.OK)
				}
			}
		}
	}
}

// TestH4GiveInTurn: what was taken last is given first; others' holds between stay where they are.
func TestH4GiveInTurn(t *testing.T) {
	c := wilds(3)
	w := world(c, 5, 6)
	f := flight(c, 5, api.PhaseGive, 0, 0, 1, 2)
	w = holding(holding(w, 5, api.HoldTimer, 0), 6, api.HoldTimer, 1)
	last := holding(holding(w, 5, api.HoldTimer, 2), 6, api.HoldLease, -1)
	x := marked(holding(w, 6, api.HoldLease, -1), 5, 2, api.CallGive)
	stepIs(t, c, last, f, x, f, -1, api.OK)
	y := marked(holding(holding(world(c, 5, 6), 6, api.HoldTimer, 1), 6, api.HoldLease, -1), 5, 2, api.CallGive)
	y = marked(y, 5, 0, api.CallGive)
	stepIs(t, c, x, f, y, f, -1, api.OK)
	z := deepWorld(y)
	z.Ledger.Holds = z.Ledger.Holds[1:]
	stepIs(t, c, y, f, marked(z, 5, -1, api.CallGive), at(f, api.PhaseDone, 0), -1, api.OK)
}

// TestH4GiveOfOthers: neither a timer that is free then nor who waits is told anything.
func TestH4GiveOfOthers(t *testing.T) {
	c := wilds(1)
	w := world(c, 6)
	w.Queue = []int{6}
	f := flight(c, 5, api.PhaseGive, 0, 0)
	stepIs(t, c, holding(w, 5, api.HoldFlight, -1), f, marked(w, 5, -1, api.CallGive), at(f, api.PhaseDone, 0), -1, api.OK)
}

// TestH4ByNumbers: a whole way in and out, in the numbers that stand in package api, written out.
func TestH4ByNumbers(t *testing.T) {
	c := api.Conf{
		Sieves: []api.Sieve{{Kind: 7, N: 7}, {Kind: 6, N: 1}}, Ups: []api.Up{{Path: "/", Status: 200, Text: "yes", Fails: 1}},
		Bads: []api.Bad{{ID: 0, Filter: 0, Call: 2, Do: 5, Text: "x"}, {ID: 0, Filter: 0, Call: 4, Do: 4, Text: "y"}}, Flights: 1, Conns: 1, Timers: 1,
	}
	w := api.World{Ledger: api.Ledger{Holds: []api.Hold{{Kind: 1, Filter: -1}}, Most: [4]int{0, 1, 1, 1}}, Gates: []int{0, 0}, Failed: []int{0}}
	f := chain.Start(c, w, api.Flight{Ask: api.Msg{Path: "/a"}}, chain.Asked(c))
	for i, x := range []struct{ phase, at, status, marks, holds, faults int }{
		{2, 0, 0, 1, 2, 0}, {2, 0, 0, 1, 3, 0}, {3, 1, 502, 2, 2, 1}, {2, 0, 0, 3, 2, 1}, {2, 0, 0, 3, 3, 1}, {3, 1, 200, 4, 2, 1},
		{3, 0, 200, 5, 2, 1}, {4, 0, 500, 6, 2, 2}, {5, 0, 500, 7, 2, 2}, {5, 0, 500, 8, 1, 3}, {6, 0, 500, 9, 0, 3},
	} {
		y, h, next, err := chain.Step(c, w, f)
		if err != 0 || next != -1 || h.Phase != x.phase || h.At != x.at || h.Msg.Status != x.status || len(y.Marks) != x.marks || len(y.Ledger.Holds) != x.holds || len(h.Faults) != x.faults {
			t.Fatalf("%d: %+v, %+v, %d, %v comes", i, y, h, next, err)
		}
		w, f = y, h
	}
	if want := (api.Fault{Kind: 7, Filter: 0, Call: 4, Text: "y", Inner: 2}); f.Faults[2] != want || !f.Fatal || string(f.Msg.Body) != "fatal" {
		t.Errorf("%+v is left", f)
	}
	if _, _, next, err := chain.Step(c, w, f); next != -1 || err != 9 {
		t.Errorf("%d, %v comes of what is done", next, err)
	}
	f.Phase, f.Waits = 2, true
	if _, _, next, err := chain.Step(c, w, f); next != -1 || err != 10 {
		t.Errorf("%d, %v comes of who waits", next, err)
	}
}

// TestH4Strange: what no server made makes no call panic, and each one ends.
func TestH4Strange(t *testing.T) {
	c := wilds(2)
	c.Bads = []api.Bad{{ID: 5, Filter: 0, Call: api.CallAnswer, Do: api.DoAgain}, {ID: 5, Filter: 99, Call: api.CallAnswer, Do: api.DoAgain}, {ID: 5, Filter: math.MaxInt, Call: api.CallAnswer, Do: api.DoAgain}}
	yes := func(filter, call int) bool { return true }
	for phase := -1; phase < 9; phase++ {
		for _, place := range []int{math.MinInt, -2, -1, 0, 1, 2, 3, 99, math.MaxInt} {
			for _, passed := range [][]int{nil, {0}, {99}, {-1, math.MaxInt, math.MinInt}, {1, 0}} {
				f := api.Flight{ID: 5, Phase: phase, At: place, Passed: passed}
				for _, w := range []api.World{{}, world(c, 5), leased(c)} {
					for _, can := range []api.Can{nil, none, yes, chain.Asked(c), chain.Asked(wilds(4))} {
						for _, d := range []api.Conf{c, {}, wilds(6)} {
							x, h, _, _ := chain.By(d, w, f, can)
							chain.By(d, x, h, can)
							chain.Start(d, w, f, can)
						}
					}
				}
			}
		}
	}
}
