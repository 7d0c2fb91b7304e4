package chain_test

import (
	"math"
	"testing"

	"sieveworks/api"
	"sieveworks/chain"
	"sieveworks/msg"
)

// TestH2Example: a filter that sets a head: one call, and somebody is to be asked.
func TestH2Example(t *testing.T) {
	c := conf(sieves()[0])
	w := world(c, 5)
	f := chain.Start(c, w, api.Flight{ID: 5, Ask: api.Msg{Path: "/a"}}, chain.Asked(c))
	want := passes(f, 0, api.PhaseUp, 0)
	want.Ask.Heads = []api.Head{{Key: "k", Text: "v"}}
	stepIs(t, c, w, f, marked(w, 5, 0, api.CallAsk), want, -1, api.OK)
}

// phases are all that there are, with asks in them that would go on.
func phases(c api.Conf) []api.Flight {
	return []api.Flight{
		flight(c, 5, api.PhaseIn, 0), flight(c, 5, api.PhaseIn, 2, 0, 1), flight(c, 5, api.PhaseUp, 0, 0, 1, 2), flight(c, 5, api.PhaseOut, 2, 0, 1, 2),
		flight(c, 5, api.PhaseClose, 1, 0, 1, 2), flight(c, 5, api.PhaseGive, 0, 0, 1, 2),
	}
}

// TestH2Done: an ask that is done stays so, also one that Waits, and all is as it was.
func TestH2Done(t *testing.T) {
	c := wilds(3)
	for _, w := range []api.World{{}, world(c), world(c, 5), holding(world(c, 5), 5, api.HoldLease, -1)} {
		for _, f := range append(phases(c), api.Flight{}, api.Flight{ID: 5, Fatal: true, At: 9}) {
			f.Phase = api.PhaseDone
			stepIs(t, c, w, f, w, f, -1, api.ErrDone)
			byIs(t, c, w, f, none, w, f, -1, api.ErrDone)
			f.Waits = true
			stepIs(t, c, w, f, w, f, -1, api.ErrDone)
		}
	}
}

// TestH2Waits: an ask that Waits does not go on, and all is as it was.
func TestH2Waits(t *testing.T) {
	c := wilds(3)
	for _, w := range []api.World{{}, world(c), world(c, 5), holding(world(c, 5), 5, api.HoldLease, -1)} {
		for _, queue := range [][]int{nil, {5}, {6, 5}} {
			w.Queue = queue
			for _, f := range phases(c) {
				f.Waits = true
				stepIs(t, c, w, f, w, f, -1, api.ErrWait)
				byIs(t, c, w, f, none, w, f, -1, api.ErrWait)
			}
		}
	}
}

// TestH2Filters: what each kind of filter makes of the ask, in the middle of others.
func TestH2Filters(t *testing.T) {
	l := sieves()
	for i, heads := range map[int][]api.Head{0: {{Key: "x", Text: "y"}, {Key: "k", Text: "v"}}, 4: {{Key: "x", Text: "y"}}, 7: {{Key: "x", Text: "y"}}, 13: {{Key: "x", Text: "y"}}} {
		c := conf(l[1], l[i], l[4])
		w := world(c, 5)
		f := flight(c, 5, api.PhaseIn, 1, 0)
		want := passes(f, 1, api.PhaseIn, 2)
		want.Ask.Heads = heads
		x := marked(w, 5, 1, api.CallAsk)
		if i == 4 {
			x.Gates = []int{0, 1, 0}
		}
		if i >= 6 {
			x = holding(x, 5, api.HoldTimer, 1)
		}
		stepIs(t, c, w, f, x, want, -1, api.OK)
	}
}

// TestH2Stop: a filter that stops the ask is not Passed; its answer goes out through those ahead of it, and the ask is as it was.
func TestH2Stop(t *testing.T) {
	l := sieves()
	for _, x := range []struct {
		s      api.Sieve
		status int
		text   string
	}{{l[2], 401, "token"}, {l[3], 413, "limit"}, {api.Sieve{Kind: api.SieveGate, N: 0}, 429, "gate"}} {
		c := conf(x.s, l[0])
		w := world(c, 5)
		f := flight(c, 5, api.PhaseIn, 0)
		stepIs(t, c, w, f, marked(w, 5, 0, api.CallAsk), says(f, api.PhaseGive, 0, x.status, x.text), -1, api.OK)
		for ahead, want := range map[int][2]int{1: {api.PhaseOut, 0}, 5: {api.PhaseOut, 0}, 7: {api.PhaseGive, 0}, 10: {api.PhaseClose, 0}, 13: {api.PhaseOut, 0}} {
			c := conf(l[ahead], x.s, l[13])
			w := world(c, 5)
			f := flight(c, 5, api.PhaseIn, 1, 0)
			stepIs(t, c, w, f, marked(w, 5, 1, api.CallAsk), says(f, want[0], want[1], x.status, x.text), -1, api.OK)
		}
		c = conf(l[13], l[1], l[0], x.s)
		w = world(c, 5)
		f = flight(c, 5, api.PhaseIn, 3, 0, 1, 2)
		stepIs(t, c, w, f, marked(w, 5, 3, api.CallAsk), says(f, api.PhaseOut, 1, x.status, x.text), -1, api.OK)
	}
}

// TestH2LetsThrough: those that may stop an ask let it go on, too, and it is as it was.
func TestH2LetsThrough(t *testing.T) {
	for _, s := range []api.Sieve{{Kind: api.SieveToken, Key: "x", Text: "y"}, {Kind: api.SieveLimit, N: 4}} {
		c := conf(s)
		w := world(c, 5)
		f := flight(c, 5, api.PhaseIn, 0)
		stepIs(t, c, w, f, marked(w, 5, 0, api.CallAsk), passes(f, 0, api.PhaseUp, 0), -1, api.OK)
	}
}

// TestH2Gate: a count below what it lets through, at it, and above it; the counts of other gates are nothing to it.
func TestH2Gate(t *testing.T) {
	for n := range api.MaxCount + 1 {
		for count := range api.MaxCount + 3 {
			for place := range 3 {
				c := conf(api.Sieve{Kind: api.SieveGate, N: 4}, api.Sieve{Kind: api.SieveGate, N: 4}, api.Sieve{Kind: api.SieveGate, N: 4})
				c.Sieves[place].N = n
				w := world(c, 5)
				w.Gates = []int{4, 2, 0}
				w.Gates[place] = count
				f := flight(c, 5, api.PhaseIn, place)
				x, want := marked(w, 5, place, api.CallAsk), passes(f, place, api.PhaseIn, place+1)
				if place == 2 {
					want = at(want, api.PhaseUp, 0)
				}
				if count < n {
					x.Gates[place]++
				} else {
					want = says(f, api.PhaseGive, 0, 429, "gate")
				}
				stepIs(t, c, w, f, x, want, -1, api.OK)
			}
		}
	}
}

// TestH2Wild: a wild filter takes a timer where there is one, for its number; others don't.
func TestH2Wild(t *testing.T) {
	for timers := range api.MaxCount + 1 {
		for held := range timers + 1 {
			for _, n := range []int{1, 3, 5, 7} {
				for _, holder := range []int{5, 6} {
					c := conf(sieves()[1], wild(n))
					c.Timers = timers
					w := world(c, 5, 6)
					for range held {
						w = holding(w, holder, api.HoldTimer, 1)
					}
					f := flight(c, 5, api.PhaseIn, 1, 0)
					x := marked(w, 5, 1, api.CallAsk)
					if held < timers {
						x = holding(x, 5, api.HoldTimer, 1)
					}
					stepIs(t, c, w, f, x, passes(f, 1, api.PhaseUp, 0), -1, api.OK)
				}
			}
		}
	}
	for i, s := range sieves()[:6] {
		c := conf(s)
		if x, _, _, _ := chain.Step(c, world(c, 5), flight(c, 5, api.PhaseIn, 0)); len(x.Ledger.Holds) != 1 {
			t.Errorf("%d: %v is held", i, x.Ledger.Holds)
		}
	}
}

// TestH2WildByOthers: by what others tell a wild filter is asked that could not be; it takes a timer, and nothing else comes of it.
func TestH2WildByOthers(t *testing.T) {
	for _, n := range []int{0, 2, 4, 6} {
		c := conf(wild(n))
		w := world(c, 5)
		f := flight(c, 5, api.PhaseIn, 0)
		byIs(t, c, w, f, none, holding(marked(w, 5, 0, api.CallAsk), 5, api.HoldTimer, 0), passes(f, 0, api.PhaseUp, 0), -1, api.OK)
	}
}

// told is what comes of a bad's Do, of the filter and call: the fault, and the answer that is told in its place.
func told(filter, call, do int) (api.Fault, int, string) {
	switch do {
	case api.DoStop:
		return api.Fault{}, 200, "oh"
	case api.DoFail:
		return api.Fault{Kind: 1, Filter: filter, Call: call, Text: "oh"}, 400, "fail"
	case api.DoPanic:
		return api.Fault{Kind: 2, Filter: filter, Call: call, Text: "oh"}, 500, "panic"
	case api.DoWrap:
		return api.Fault{Kind: 2, Filter: filter, Call: call, Text: "oh", Inner: 1}, 500, "panic"
	case api.DoFatal:
		return api.Fault{Kind: 3, Filter: filter, Call: call}, 500, "fatal"
	case api.DoNext, api.DoAgain:
		return api.Fault{}, 0, ""
	}
	return api.Fault{Kind: 1, Filter: -1}, 400, "fail"
}

// dos are all that a bad can do, and some beside them.
func dos() []int {
	return []int{math.MinInt, -1, 0, 1, 2, 3, 4, 5, 6, 7, 1<<32 + 1, math.MaxInt}
}

// TestH2Bads: each Do of a bad in CallAsk, of each filter that can be asked: what the filter would do by itself is not done.
func TestH2Bads(t *testing.T) {
	for _, s := range []api.Sieve{sieves()[0], sieves()[2], sieves()[3], sieves()[4], {Kind: api.SieveGate}, wild(1), wild(7)} {
		for _, do := range dos() {
			for _, id := range great() {
				c := conf(sieves()[1], s, wild(7))
				c.Bads = []api.Bad{{ID: id, Filter: 1, Call: api.CallAsk, Do: do, Text: "oh"}}
				w := world(c, id)
				f := flight(c, id, api.PhaseIn, 1, 0)
				bad, status, text := told(1, api.CallAsk, do)
				want := passes(f, 1, api.PhaseIn, 2)
				if status != 0 {
					want = says(f, api.PhaseOut, 0, status, text)
				}
				if bad.Kind != 0 {
					want = faulty(want, bad)
				}
				want.Fatal = do == api.DoFatal
				stepIs(t, c, w, f, marked(w, id, 1, api.CallAsk), want, -1, api.OK)
			}
		}
	}
}

// TestH2BadText: a bad's Text is told as it is, without one too; of what is fatal nothing is told.
func TestH2BadText(t *testing.T) {
	for _, text := range []string{"", "x", "20 bytes are the most", "\n\x00\xff"} {
		c := wilds(1)
		c.Bads = []api.Bad{{ID: 5, Filter: 0, Call: api.CallAsk, Do: api.DoStop, Text: text}}
		w := world(c, 5)
		f := flight(c, 5, api.PhaseIn, 0)
		stepIs(t, c, w, f, marked(w, 5, 0, api.CallAsk), says(f, api.PhaseGive, 0, 200, text), -1, api.OK)
		c.Bads[0].Do = api.DoPanic
		want := faulty(says(f, api.PhaseGive, 0, 500, "panic"), api.Fault{Kind: api.FaultPanic, Filter: 0, Call: api.CallAsk, Text: text})
		stepIs(t, c, w, f, marked(w, 5, 0, api.CallAsk), want, -1, api.OK)
	}
}

// TestH2BadOfAnother: a bad of another ask, filter or call does nothing, whatever it would do.
func TestH2BadOfAnother(t *testing.T) {
	c := conf(sieves()[1], sieves()[0], wild(7))
	w := world(c, 5)
	f := flight(c, 5, api.PhaseIn, 1, 0)
	want := passes(f, 1, api.PhaseIn, 2)
	want.Ask = msg.Set(f.Ask, "k", "v")
	for _, do := range dos() {
		var bads []api.Bad
		for _, n := range []int{math.MinInt, -5, -1, 0, 2, 3, 4, 6, 1<<32 + 1, 1<<32 + 5, math.MaxInt} {
			bads = append(bads, api.Bad{ID: n, Filter: 1, Call: 1}, api.Bad{ID: 5, Filter: n, Call: 1}, api.Bad{ID: 5, Filter: 1, Call: n})
		}
		bads = append(bads, api.Bad{ID: 1, Filter: 5, Call: 1}, api.Bad{ID: 1, Filter: 1, Call: 5})
		for i := range bads {
			bads[i].Do = do
			c.Bads = bads[i : i+1]
			stepIs(t, c, w, f, marked(w, 5, 1, api.CallAsk), want, -1, api.OK)
		}
		c.Bads = bads
		stepIs(t, c, w, f, marked(w, 5, 1, api.CallAsk), want, -1, api.OK)
	}
}

// TestH2FirstBad: of several bads of the same call the first one counts, wherever it stands.
func TestH2FirstBad(t *testing.T) {
	c := conf(sieves()[1], wild(7))
	w := world(c, 5)
	f := flight(c, 5, api.PhaseIn, 1, 0)
	first := api.Bad{ID: 5, Filter: 1, Call: api.CallAsk, Do: api.DoStop, Text: "one"}
	second := api.Bad{ID: 5, Filter: 1, Call: api.CallAsk, Do: api.DoFail, Text: "two"}
	other := api.Bad{ID: 5, Filter: 0, Call: api.CallAsk, Do: api.DoFatal}
	want := says(f, api.PhaseOut, 0, 200, "one")
	for _, l := range [][]api.Bad{{first, second}, {other, first, second}, {first, other, second}, {other, first, other, second, first}} {
		c.Bads = l
		stepIs(t, c, w, f, marked(w, 5, 1, api.CallAsk), want, -1, api.OK)
	}
	want = faulty(says(f, api.PhaseOut, 0, 400, "fail"), api.Fault{Kind: api.FaultFail, Filter: 1, Call: api.CallAsk, Text: "two"})
	for _, l := range [][]api.Bad{{second, first}, {other, second, first}, {second, other, first}} {
		c.Bads = l
		stepIs(t, c, w, f, marked(w, 5, 1, api.CallAsk), want, -1, api.OK)
	}
	c.Bads = []api.Bad{{ID: 5, Filter: 1, Call: api.CallAsk, Do: api.DoNext}, second}
	stepIs(t, c, w, f, marked(w, 5, 1, api.CallAsk), passes(f, 1, api.PhaseUp, 0), -1, api.OK)
}

// TestH2FaultsComeLast: a fault comes behind those that there are; and what was fatal stays so.
func TestH2FaultsComeLast(t *testing.T) {
	c := wilds(1)
	c.Bads = []api.Bad{{ID: 5, Filter: 0, Call: api.CallAsk, Do: api.DoFail, Text: "oh"}}
	w := world(c, 5)
	f := flight(c, 5, api.PhaseIn, 0)
	f.Faults = []api.Fault{{Kind: api.FaultUp, Filter: -1}, {Kind: api.FaultFatal, Filter: 0, Call: 2}}
	f.Fatal = true
	want := faulty(says(f, api.PhaseGive, 0, 400, "fail"), api.Fault{Kind: api.FaultFail, Filter: 0, Call: api.CallAsk, Text: "oh"})
	stepIs(t, c, w, f, marked(w, 5, 0, api.CallAsk), want, -1, api.OK)
}
