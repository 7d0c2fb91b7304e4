package chain_test

import (
	"math"
	"slices"
	"testing"

	"sieveworks/api"
	"sieveworks/chain"
	"sieveworks/ledger"
	"sieveworks/msg"
)

// sieves are of every kind that there is; wild ones can each thing that they may.
func sieves() []api.Sieve {
	l := []api.Sieve{
		{Kind: api.SieveSet, Key: "k", Text: "v"}, {Kind: api.SieveMark, Key: "k", Text: "v"}, {Kind: api.SieveToken, Key: "k", Text: "v"},
		{Kind: api.SieveLimit, N: 3}, {Kind: api.SieveGate, N: 2}, {Kind: api.SieveRetry, N: 2},
	}
	for n := range 8 {
		l = append(l, wild(n))
	}
	return l
}

func wild(n int) api.Sieve { return api.Sieve{Kind: api.SieveWild, N: n} }

// conf has these filters, and room for some of all.
func conf(l ...api.Sieve) api.Conf {
	return api.Conf{Sieves: l, Ups: []api.Up{{Path: "/", Status: 200, Text: "yes"}}, Flights: 4, Conns: 1, Waits: 1, Timers: 2}
}

// wilds is a conf of n filters, of which others tell what they can.
func wilds(n int) api.Conf {
	var l []api.Sieve
	for range n {
		l = append(l, wild(7))
	}
	return conf(l...)
}

// world is one of a server of c: each of those ids holds what it does since it came; another one, 70, has been there.
func world(c api.Conf, ids ...int) api.World {
	w := api.World{
		Ledger: ledger.New(c.Flights, c.Conns, c.Timers),
		Gates:  make([]int, len(c.Sieves)),
		Failed: make([]int, len(c.Ups)),
		Marks:  []api.Mark{{ID: 70, Filter: 0, Call: api.CallAsk}, {ID: 70, Filter: -1, Call: api.CallUp}},
	}
	for _, id := range ids {
		w = holding(w, id, api.HoldFlight, -1)
	}
	return w
}

// holding has something more be held, whether there is so much or not.
func holding(w api.World, id, kind, filter int) api.World {
	w = deepWorld(w)
	w.Ledger.Holds = append(w.Ledger.Holds, api.Hold{ID: id, Kind: kind, Filter: filter})
	return w
}

// marked has a call more be made.
func marked(w api.World, id, filter, call int) api.World {
	w = deepWorld(w)
	w.Marks = append(w.Marks, api.Mark{ID: id, Filter: filter, Call: call})
	return w
}

// flight is the ask of id, of /a, at a place of a phase, with those filters behind it.
func flight(c api.Conf, id, phase, at int, passed ...int) api.Flight {
	f := api.Flight{
		ID: id, Phase: phase, At: at, Passed: slices.Clone(passed), Again: make([]int, len(c.Sieves)),
		Ask: api.Msg{Path: "/a", Heads: []api.Head{{Key: "x", Text: "y"}}, Body: []byte("four")},
	}
	if phase > api.PhaseUp {
		f.Msg = msg.Answer(201, "so")
	}
	return f
}

// at has the ask be elsewhere.
func at(f api.Flight, phase, at int) api.Flight {
	f = deepFlight(f)
	f.Phase, f.At = phase, at
	return f
}

// passes has one filter more behind the ask, which is elsewhere then.
func passes(f api.Flight, filter, phase, place int) api.Flight {
	f = at(f, phase, place)
	f.Passed = append(f.Passed, filter)
	return f
}

// says has the ask be elsewhere, with that answer.
func says(f api.Flight, phase, place, status int, text string) api.Flight {
	f = at(f, phase, place)
	f.Msg = msg.Answer(status, text)
	return f
}

// faulty has one fault more.
func faulty(f api.Flight, more api.Fault) api.Flight {
	f = deepFlight(f)
	f.Faults = append(f.Faults, more)
	return f
}

// deepWorld copies by other means than the ones that are tried, with nothing behind its lists.
func deepWorld(w api.World) api.World {
	w.Ledger.Holds = slices.Clip(slices.Clone(w.Ledger.Holds))
	w.Gates = slices.Clip(slices.Clone(w.Gates))
	w.Failed = slices.Clip(slices.Clone(w.Failed))
	w.Queue = slices.Clip(slices.Clone(w.Queue))
	w.Marks = slices.Clip(slices.Clone(w.Marks))
	return w
}

func deepMsg(m api.Msg) api.Msg {
	m.Heads = slices.Clip(slices.Clone(m.Heads))
	m.Body = slices.Clip(slices.Clone(m.Body))
	return m
}

func deepFlight(f api.Flight) api.Flight {
	f.Ask, f.Msg = deepMsg(f.Ask), deepMsg(f.Msg)
	f.Passed = slices.Clip(slices.Clone(f.Passed))
	f.Again = slices.Clip(slices.Clone(f.Again))
	f.Faults = slices.Clip(slices.Clone(f.Faults))
	return f
}

// sameWorld and sameFlight take nil and a list without entries for the same.
func sameWorld(a, b api.World) bool {
	return a.Ledger.Most == b.Ledger.Most && slices.Equal(a.Ledger.Holds, b.Ledger.Holds) && slices.Equal(a.Gates, b.Gates) &&
		slices.Equal(a.Failed, b.Failed) && slices.Equal(a.Queue, b.Queue) && slices.Equal(a.Marks, b.Marks)
}

func sameFlight(a, b api.Flight) bool {
	return a.ID == b.ID && a.Phase == b.Phase && a.At == b.At && msg.Same(a.Ask, b.Ask) && msg.Same(a.Msg, b.Msg) && slices.Equal(a.Passed, b.Passed) &&
		slices.Equal(a.Again, b.Again) && slices.Equal(a.Faults, b.Faults) && a.Waits == b.Waits && a.Fatal == b.Fatal
}

// byIs holds what By answers against what must come.
func byIs(t *testing.T, c api.Conf, w api.World, f api.Flight, can api.Can, wantW api.World, wantF api.Flight, wantNext int, wantErr api.Errno) {
	t.Helper()
	x, h, next, err := chain.By(c, w, f, can)
	if err != wantErr || next != wantNext {
		t.Errorf("of %+v: %d, %v comes, not %d, %v", f, next, err, wantNext, wantErr)
	}
	if !sameWorld(x, wantW) {
		t.Errorf("of %+v:\n%+v comes, not\n%+v", f, x, wantW)
	}
	if !sameFlight(h, wantF) {
		t.Errorf("of %+v:\n%+v comes, not\n%+v", f, h, wantF)
	}
}

// stepIs holds what Step answers against what must come, and what By answers, with Asked.
func stepIs(t *testing.T, c api.Conf, w api.World, f api.Flight, wantW api.World, wantF api.Flight, wantNext int, wantErr api.Errno) {
	t.Helper()
	byIs(t, c, w, f, chain.Asked(c), wantW, wantF, wantNext, wantErr)
	x, h, next, err := chain.Step(c, w, f)
	if err != wantErr || next != wantNext || !sameWorld(x, wantW) || !sameFlight(h, wantF) {
		t.Errorf("Step of %+v:\n%+v\n%+v, %d, %v comes, not\n%+v\n%+v, %d, %v", f, x, h, next, err, wantW, wantF, wantNext, wantErr)
	}
}

// only tells that those filters can a call, and that no other call can be made of any.
func only(call int, l ...int) api.Can {
	return func(filter, what int) bool { return what == call && slices.Contains(l, filter) }
}

// none tells of no filter that it can something.
func none(filter, call int) bool { return false }

// subsets are those of the numbers below n.
func subsets(n int) [][]int {
	var out [][]int
	for bits := range 1 << n {
		var l []int
		for i := range n {
			if bits>>i&1 == 1 {
				l = append(l, i)
			}
		}
		out = append(out, l)
	}
	return out
}

// great are numbers of asks that no bad names, and great ones.
func great() []int {
	return []int{math.MinInt, -1 << 32, -2, -1, 0, 1, 3, 99, 1 << 32, 1<<32 + 5, math.MaxInt - 1, math.MaxInt}
}

func TestH1Own(t *testing.T) {
	full := flight(wilds(3), 5, api.PhaseOut, 1, 0, 1, 2)
	full.Faults = []api.Fault{{Kind: api.FaultPanic, Filter: 1, Call: 2, Text: "x", Inner: 1}, {Kind: api.FaultUp, Filter: -1}}
	full.Again = []int{4, 0, 1}
	full.Msg.Heads = []api.Head{{Key: "k", Text: "v"}, {Key: "l", Text: ""}}
	waits, fatal := flight(conf(), 0, api.PhaseUp, 0), flight(conf(), math.MinInt, api.PhaseDone, 0)
	waits.Waits, fatal.Fatal = true, true
	empty := api.Flight{Ask: api.Msg{Heads: []api.Head{}, Body: []byte{}}, Passed: []int{}, Again: []int{}, Faults: []api.Fault{}}
	for _, f := range []api.Flight{{}, empty, full, waits, fatal, {ID: -1, Phase: 99, At: math.MinInt, Ask: api.Msg{Status: -5, Path: "\n"}, Passed: []int{-1, math.MaxInt}}} {
		if got := chain.Own(f); !sameFlight(got, f) {
			t.Errorf("Own(%+v): %+v comes", f, got)
		}
	}
}

// TestH1Asked: what each filter can, by its number, and of no other number anything.
func TestH1Asked(t *testing.T) {
	l := sieves()
	can := []int{1, 2, 1, 1, 1, 2, 0, 1, 2, 3, 4, 5, 6, 7}
	for n := range len(l) + 1 {
		asked := chain.Asked(conf(l[:n]...))
		for filter := -2; filter < len(l)+2; filter++ {
			for call := -2; call < 9; call++ {
				want := filter >= 0 && filter < n && call >= 1 && call <= 3 && can[filter]>>(call-1)&1 == 1
				if got := asked(filter, call); got != want {
					t.Errorf("of %d filters: %d, call %d: %v comes", n, filter, call, got)
				}
			}
		}
		for _, filter := range great() {
			if (filter < 0 || filter >= n) && (asked(filter, api.CallAsk) || asked(filter, api.CallAnswer) || asked(filter, api.CallClose)) {
				t.Errorf("of %d filters: %d can something", n, filter)
			}
		}
		for _, call := range []int{math.MinInt, -1, 0, api.CallGive, api.CallUp, 6, 1<<32 + 1, math.MaxInt} {
			if asked(0, call) || asked(n-1, call) {
				t.Errorf("of %d filters: one can call %d", n, call)
			}
		}
	}
	if chain.Asked(api.Conf{})(0, api.CallAsk) {
		t.Error("of no filters the first one can be asked")
	}
}

// TestH1Start: the ask is at the first filter that can be asked, with what comes ahead of that behind it.
func TestH1Start(t *testing.T) {
	for n := range api.MaxSieves + 1 {
		c := wilds(n)
		w := world(c, 5)
		for _, l := range subsets(n) {
			want := flight(c, 5, api.PhaseUp, 0)
			for i := range n {
				if slices.Contains(l, i) {
					want.Phase, want.At = api.PhaseIn, i
					break
				}
				want.Passed = append(want.Passed, i)
			}
			got := chain.Start(c, w, api.Flight{ID: 5, Ask: want.Ask}, only(api.CallAsk, l...))
			if !sameFlight(got, want) {
				t.Errorf("%d filters, %v can be asked: %+v comes, not %+v", n, l, got, want)
			}
		}
		all := make([]int, n)
		for i := range n {
			all[i] = i
		}
		for _, call := range []int{api.CallAnswer, api.CallClose, api.CallGive, api.CallUp, 0} { // what else they can is nothing to go in by
			got := chain.Start(c, w, api.Flight{ID: 5, Ask: flight(c, 5, 1, 0).Ask}, only(call, all...))
			if !sameFlight(got, flight(c, 5, api.PhaseUp, 0, all...)) {
				t.Errorf("%d filters that can call %d alone: %+v comes", n, call, got)
			}
		}
	}
}

// TestH1StartOfFilters: the filters themselves are asked; and whatever number the ask has, and whatever it holds.
func TestH1StartOfFilters(t *testing.T) {
	l := sieves()
	for _, x := range []struct {
		l      []api.Sieve
		phase  int
		at     int
		passed []int
	}{
		{nil, 2, 0, nil}, {l[:1], 1, 0, nil}, {l[1:2], 2, 0, []int{0}}, {l[1:4], 1, 1, []int{0}}, {l[5:8], 1, 2, []int{0, 1}},
		{[]api.Sieve{l[1], l[5], l[12], l[10]}, 2, 0, []int{0, 1, 2, 3}}, {[]api.Sieve{l[6], l[8], l[10], l[12], l[13]}, 1, 4, []int{0, 1, 2, 3}},
	} {
		c := conf(x.l...)
		for _, id := range great() {
			want := flight(c, id, x.phase, x.at, x.passed...)
			for _, w := range []api.World{{}, world(c), world(c, id), holding(world(c, id), id, api.HoldTimer, 0)} {
				if got := chain.Start(c, w, api.Flight{ID: id, Ask: want.Ask}, chain.Asked(c)); !sameFlight(got, want) {
					t.Errorf("%v: %+v comes, not %+v", x.l, got, want)
				}
			}
		}
	}
}

// TestH1StartAnew: the phase, the place and how often it was done again are new, whatever stood there.
func TestH1StartAnew(t *testing.T) {
	c := conf(sieves()[:3]...)
	for _, f := range []api.Flight{{}, {Phase: api.PhaseDone}, {Phase: api.PhaseOut, At: 2, Again: []int{4, 4, 4, 4}}, {Phase: -7, At: math.MinInt, Again: []int{1}}, {At: math.MaxInt}} {
		f.ID, f.Ask = 5, api.Msg{Path: "/a"}
		want := api.Flight{ID: 5, Phase: api.PhaseIn, Ask: f.Ask, Again: []int{0, 0, 0}}
		if got := chain.Start(c, world(c, 5), f, chain.Asked(c)); !sameFlight(got, want) {
			t.Errorf("%+v: %+v comes, not %+v", f, got, want)
		}
	}
}

// TestH1RestIn: behind a call the ask rests at the next filter that can be asked, at each place.
func TestH1RestIn(t *testing.T) {
	for n := 1; n <= 4; n++ {
		c := wilds(n)
		c.Timers = 0
		w := world(c, 5)
		for from := range n {
			for _, l := range subsets(n) {
				f := flight(c, 5, api.PhaseIn, from)
				want := passes(f, from, api.PhaseUp, 0)
				for i := from + 1; i < n; i++ {
					if slices.Contains(l, i) {
						want = at(want, api.PhaseIn, i)
						break
					}
					want = passes(want, i, api.PhaseUp, 0)
				}
				byIs(t, c, w, f, only(api.CallAsk, l...), marked(w, 5, from, api.CallAsk), want, -1, api.OK)
			}
		}
	}
}

// resting is where an answer rests that goes out through those filters, from a place on: of which some can look at answers, and some be closed.
func resting(f api.Flight, answers, closes []int, held bool) api.Flight {
	for ; f.At >= 0; f.At-- {
		if slices.Contains(answers, f.Passed[f.At]) {
			return at(f, api.PhaseOut, f.At)
		}
	}
	return restingToClose(at(f, api.PhaseClose, len(f.Passed)-1), closes, held)
}

func restingToClose(f api.Flight, closes []int, held bool) api.Flight {
	for ; f.At >= 0; f.At-- {
		if slices.Contains(closes, f.Passed[f.At]) {
			return at(f, api.PhaseClose, f.At)
		}
	}
	if held {
		return at(f, api.PhaseGive, 0)
	}
	return at(f, api.PhaseDone, 0)
}

// both tells that some filters can look at answers, and some be closed.
func both(answers, closes []int) api.Can {
	return func(filter, call int) bool {
		return call == api.CallAnswer && slices.Contains(answers, filter) || call == api.CallClose && slices.Contains(closes, filter)
	}
}

// eachRest calls do for filters that are behind an ask, by number not by place, none among them, and all that these can; and if something is held or not.
func eachRest(do func(passed, answers, closes []int, held bool)) {
	for _, passed := range [][]int{nil, {0}, {1}, {0, 1}, {1, 2}, {0, 1, 2}} {
		for _, answers := range subsets(3) {
			for _, closes := range subsets(3) {
				do(passed, answers, closes, true)
				do(passed, answers, closes, false)
			}
		}
	}
}

// TestH1RestOut: somebody was asked: the answer rests at the last place of which the filter can look at it; with none, at the last one of which the filter can be closed; with none, to give back, or done.
func TestH1RestOut(t *testing.T) {
	c := wilds(3)
	eachRest(func(passed, answers, closes []int, held bool) {
		w := world(c)
		if held {
			w = world(c, 5)
		}
		want := says(flight(c, 5, 0, 0, passed...), api.PhaseOut, len(passed)-1, 200, "yes")
		byIs(t, c, holding(w, 5, api.HoldLease, -1), flight(c, 5, api.PhaseUp, 0, passed...), both(answers, closes), marked(w, 5, -1, api.CallUp), resting(want, answers, closes, held), -1, api.OK)
	})
}

// TestH1RestBehindAnswer: from each place on, the one below it is the next.
func TestH1RestBehindAnswer(t *testing.T) {
	c := wilds(3)
	eachRest(func(passed, answers, closes []int, held bool) {
		w := world(c)
		if held {
			w = world(c, 5)
		}
		for place := range passed {
			f := flight(c, 5, api.PhaseOut, place, passed...)
			byIs(t, c, w, f, both(answers, closes), marked(w, 5, passed[place], api.CallAnswer), resting(at(f, api.PhaseOut, place-1), answers, closes, held), -1, api.OK)
		}
	})
}

// TestH1RestBehindClose: nothing rests to look at answers any more; behind the last one it is to give back, if it holds something; else it is done.
func TestH1RestBehindClose(t *testing.T) {
	c := wilds(3)
	eachRest(func(passed, answers, closes []int, held bool) {
		w := world(c)
		if held {
			w = world(c, 5)
		}
		for place := range passed {
			f := flight(c, 5, api.PhaseClose, place, passed...)
			byIs(t, c, w, f, both(answers, closes), marked(w, 5, passed[place], api.CallClose), restingToClose(at(f, api.PhaseClose, place-1), closes, held), -1, api.OK)
		}
	})
}

// TestH1RestToGive: what others hold is not what the ask holds, of whatever kind it is.
func TestH1RestToGive(t *testing.T) {
	c := wilds(1)
	f := flight(c, 5, api.PhaseClose, 0, 0)
	for _, kind := range []int{api.HoldFlight, api.HoldLease, api.HoldTimer} {
		for _, id := range great() {
			w := holding(world(c), id, kind, 0)
			stepIs(t, c, w, f, marked(w, 5, 0, api.CallClose), at(f, api.PhaseDone, 0), -1, api.OK)
		}
		w := holding(world(c, 6), 5, kind, 0)
		stepIs(t, c, w, f, marked(w, 5, 0, api.CallClose), at(f, api.PhaseGive, 0), -1, api.OK)
	}
}
