package server_test

import (
	"math"
	"slices"
	"strings"
	"testing"

	"sieveworks/api"
	"sieveworks/msg"
	"sieveworks/server"
)

func comes(m api.Msg) api.Step     { return api.Step{Kind: api.StepAsk, Msg: m} }
func asks(path string) api.Step    { return comes(api.Msg{Path: path}) }
func goes(n int) api.Step          { return api.Step{Kind: api.StepGo, N: n} }
func ticks() api.Step              { return api.Step{Kind: api.StepTick} }
func tables() []bool               { return []bool{false, true} }
func last(s api.Server) api.Flight { return s.Flights[len(s.Flights)-1] }

// numbers of no ask, where there are few.
func numbers() []int {
	return []int{math.MinInt, math.MinInt + 1, -1 << 32, -257, -2, -1, 99, 256, 1 << 31, 1 << 32, 1<<32 + 1, math.MaxInt - 1, math.MaxInt}
}

// doIs holds what Do answers, by a table and without one, against what must come.
func doIs(t *testing.T, x api.Server, step api.Step, want api.Server, wantErr api.Errno) {
	t.Helper()
	for _, table := range tables() {
		got, err := server.Do(x, step, table)
		if err != wantErr || !same(got, want) {
			t.Errorf("%+v, %v of\n%+v:\n%+v, %v comes, not\n%+v, %v", step, table, x, got, err, want, wantErr)
		}
	}
}

// played has a server take steps, of which none may have an error.
func played(t *testing.T, c api.Conf, table bool, l ...api.Step) api.Server {
	t.Helper()
	s := fresh(t, c)
	for i, step := range l {
		var err api.Errno
		if s, err = server.Do(s, step, table); err != api.OK {
			t.Fatalf("step %d, %+v: %v comes", i, step, err)
		}
	}
	return s
}

// TestJ1AskWrong: whatever is wrong with a message, it is told that it is not written as an ask must be, and nobody is there.
func TestJ1AskWrong(t *testing.T) {
	body := []byte(strings.Repeat("x", api.MaxBody+1))
	var heads []api.Head
	for i := range api.MaxHeads + 1 {
		heads = append(heads, api.Head{Key: "abcdefg"[i : i+1], Text: "v"})
	}
	for _, m := range []api.Msg{
		{}, {Path: "x"}, {Path: "/A"}, {Path: "/" + strings.Repeat("a", api.MaxPath)}, {Status: -1, Path: "/a"}, {Status: 99}, {Status: 600}, {Status: math.MaxInt}, {Status: math.MinInt},
		{Path: "/a", Heads: heads}, {Path: "/a", Body: body}, {Path: "/a", Heads: []api.Head{{Key: "K"}}}, {Path: "/a", Heads: []api.Head{{Key: "k", Text: "\n"}}},
		{Path: "/a", Heads: []api.Head{{Key: "k"}, {Key: "k"}}}, {Status: 200, Path: "/a"}, {Status: 200, Body: body},
		{Status: 200}, {Status: 100}, {Status: 599, Heads: heads[:2]}, msg.Answer(404, "gone"), msg.Answer(500, ""),
	} {
		for _, s := range []api.Server{fresh(t, api.Conf{Conns: 1}), fresh(t, full()), crowd()} {
			doIs(t, s, comes(m), s, api.ErrForm)
		}
	}
}

// TestJ1AskMost: messages that are just right.
func TestJ1AskMost(t *testing.T) {
	var heads []api.Head
	for i := range api.MaxHeads {
		heads = append(heads, api.Head{Key: strings.Repeat("abcdef"[i:i+1], api.MaxKey), Text: strings.Repeat("~", api.MaxLine)})
	}
	for _, m := range []api.Msg{
		{Path: "/"}, {Path: "/" + strings.Repeat("a", api.MaxPath-1)}, {Path: "/a", Heads: heads}, {Path: "/a", Body: []byte(strings.Repeat("\x00", api.MaxBody))},
		{Path: "/a", Heads: []api.Head{}, Body: []byte{}}, {Path: "/a", Heads: []api.Head{{Key: "k"}}},
	} {
		s := fresh(t, conf())
		want := s
		want.World.Ledger.Holds = []api.Hold{{ID: 0, Kind: api.HoldFlight, Filter: -1}}
		want.Flights = []api.Flight{{Phase: api.PhaseUp, Ask: m}}
		doIs(t, s, comes(m), want, api.OK)
	}
}

// TestJ1AskStarts: the ask is at the first filter that can be asked, has what it came with, and nothing is called yet.
func TestJ1AskStarts(t *testing.T) {
	l := sieves()
	for _, x := range []struct {
		l      []api.Sieve
		phase  int
		at     int
		passed []int
	}{
		{nil, 2, 0, nil}, {l[:1], 1, 0, nil}, {l[1:2], 2, 0, []int{0}}, {l[1:4], 1, 1, []int{0}}, {l[5:8], 1, 2, []int{0, 1}}, {l[:6], 1, 0, nil},
		{[]api.Sieve{l[1], l[5], l[12], l[10]}, 2, 0, []int{0, 1, 2, 3}}, {[]api.Sieve{l[6], l[8], l[10], l[12], l[1], l[13]}, 1, 5, []int{0, 1, 2, 3, 4}},
	} {
		m := api.Msg{Path: "/a/b", Heads: []api.Head{{Key: "x", Text: "y"}}, Body: []byte("a body")}
		s := fresh(t, conf(x.l...))
		for id := range 3 {
			want := server.Own(s)
			want.World.Ledger.Holds = append(want.World.Ledger.Holds, api.Hold{ID: id, Kind: api.HoldFlight, Filter: -1})
			want.Flights = append(want.Flights, api.Flight{ID: id, Phase: x.phase, At: x.at, Ask: m, Passed: x.passed, Again: make([]int, len(x.l))})
			doIs(t, s, comes(m), want, api.OK)
			s = want
			m.Path += "c"
		}
	}
}

// refused is an ask that was one too many.
func refused(id int, m api.Msg, filters int) api.Flight {
	return api.Flight{ID: id, Phase: api.PhaseDone, Ask: m, Msg: msg.Answer(503, "overload"), Again: make([]int, filters), Faults: []api.Fault{{Kind: api.FaultOverload, Filter: -1}}}
}

// TestJ1AskTooMany: as many as may be there have started; those that come then are answered at once, and hold nothing.
func TestJ1AskTooMany(t *testing.T) {
	for flights := range api.MaxCount + 1 {
		for _, filters := range [][]api.Sieve{nil, {wild(1)}, sieves()[1:2], full().Sieves} {
			c := conf(filters...)
			c.Flights = flights
			s := fresh(t, c)
			for id := range flights + 3 {
				m := api.Msg{Path: "/a", Heads: []api.Head{{Key: "k", Text: "v"}}, Body: []byte("body")[:id%5]}
				want := server.Own(s)
				if id >= flights {
					want.Flights = append(want.Flights, refused(id, m, len(filters)))
					doIs(t, s, comes(m), want, api.OK)
				}
				next, err := server.Do(s, comes(m), id%2 == 0)
				if err != api.OK || len(next.Flights) != id+1 || last(next).ID != id || len(next.World.Ledger.Holds) != min(id+1, flights) || (last(next).Phase == api.PhaseDone) != (id >= flights) {
					t.Errorf("ask %d of %d: %+v, %v comes", id, flights, next, err)
				}
				s = next
			}
		}
	}
}

// TestJ1AskRefusedAsBad: nobody's bad is met by an ask that no filter has seen, and it goes on no more.
func TestJ1AskRefusedAsBad(t *testing.T) {
	c := conf(wild(7))
	c.Flights, c.Bads = 0, []api.Bad{{ID: 0, Filter: 0, Call: api.CallAsk, Do: api.DoPanic, Text: "oh"}, {ID: 0, Filter: -1, Call: api.CallGive, Do: api.DoFatal}}
	s := fresh(t, c)
	want := server.Own(s)
	want.Flights = []api.Flight{refused(0, api.Msg{Path: "/a"}, 1)}
	doIs(t, s, asks("/a"), want, api.OK)
	doIs(t, want, goes(0), want, api.ErrDone)
}

// TestJ1AskRoomAgain: when one has given back, another one may come; those that were refused stay so, and numbers go on.
func TestJ1AskRoomAgain(t *testing.T) {
	c := conf()
	c.Flights = 1
	for _, table := range tables() {
		s := played(t, c, table, asks("/a"), asks("/b"), goes(0), goes(0), goes(0))
		if s.Flights[0].Phase != api.PhaseDone || len(s.World.Ledger.Holds) != 0 {
			t.Fatalf("%+v comes", s)
		}
		want := server.Own(s)
		want.World.Ledger.Holds = []api.Hold{{ID: 2, Kind: api.HoldFlight, Filter: -1}}
		want.Flights = append(want.Flights, api.Flight{ID: 2, Phase: api.PhaseUp, Ask: api.Msg{Path: "/c"}})
		doIs(t, s, asks("/c"), want, api.OK)
		if !sameFlight(want.Flights[1], refused(1, api.Msg{Path: "/b"}, 0)) {
			t.Errorf("%+v comes", want.Flights[1])
		}
	}
}

// TestJ1GoNone: numbers below nought, as many as there are asks, and great ones.
func TestJ1GoNone(t *testing.T) {
	for asked := range 4 {
		s := fresh(t, conf(wild(7)))
		for range asked {
			s, _ = server.Do(s, asks("/a"), false)
		}
		for _, n := range append(numbers(), asked, asked+1) {
			doIs(t, s, goes(n), s, api.ErrNone)
		}
		if asked > 0 {
			if x, err := server.Do(s, goes(asked-1), true); err != api.OK || same(x, s) {
				t.Errorf("the last of %d: %+v, %v comes", asked, x, err)
			}
		}
	}
}

// TestJ1GoByWords: an ask's whole way, step by step, as it is written.
func TestJ1GoByWords(t *testing.T) {
	c := conf(api.Sieve{Kind: api.SieveSet, Key: "k", Text: "v"}, wild(6), wild(5))
	hold := func(l ...api.Hold) []api.Hold { return l }
	flight, timer, lease := api.Hold{Kind: 1, Filter: -1}, api.Hold{Kind: 3, Filter: 2}, api.Hold{Kind: 2, Filter: -1}
	s := fresh(t, c)
	s, _ = server.Do(s, asks("/a"), false)
	for i, x := range []struct {
		phase, at, passed, status int
		holds                     []api.Hold
		filter, call              int // of the mark; 0: none
	}{
		{api.PhaseIn, 2, 2, 0, hold(flight), 0, api.CallAsk},
		{api.PhaseUp, 0, 3, 0, hold(flight, timer), 2, api.CallAsk},
		{api.PhaseUp, 0, 3, 0, hold(flight, timer, lease), 0, 0},
		{api.PhaseOut, 1, 3, 200, hold(flight, timer), -1, api.CallUp},
		{api.PhaseClose, 2, 3, 200, hold(flight, timer), 1, api.CallAnswer},
		{api.PhaseClose, 1, 3, 200, hold(flight, timer), 2, api.CallClose},
		{api.PhaseGive, 0, 3, 200, hold(flight, timer), 1, api.CallClose},
		{api.PhaseGive, 0, 3, 200, hold(flight), 2, api.CallGive},
		{api.PhaseDone, 0, 3, 200, nil, -1, api.CallGive},
	} {
		want := server.Own(s)
		want.World.Ledger.Holds = x.holds
		if x.call != 0 {
			want.World.Marks = append(want.World.Marks, api.Mark{Filter: x.filter, Call: x.call})
		}
		f := api.Flight{Phase: x.phase, At: x.at, Ask: api.Msg{Path: "/a", Heads: []api.Head{{Key: "k", Text: "v"}}}, Passed: []int{0, 1, 2}[:x.passed], Again: make([]int, 3)}
		if x.status != 0 {
			f.Msg = msg.Answer(x.status, "yes")
		}
		want.Flights = []api.Flight{f}
		doIs(t, s, goes(0), want, api.OK)
		if t.Failed() {
			t.Fatalf("step %d", i)
		}
		s = want
	}
	doIs(t, s, goes(0), s, api.ErrDone)
}

// TestJ1GoDone: who is answered does not go on, however many others are there.
func TestJ1GoDone(t *testing.T) {
	s := crowd()
	doIs(t, s, goes(0), s, api.ErrDone)
	doIs(t, s, goes(3), s, api.ErrDone)
}

// TestJ1GoWaits: one may be asked: the second one waits, and goes on only when the first one is answered; it has the lease then.
func TestJ1GoWaits(t *testing.T) {
	for _, table := range tables() {
		c := conf()
		c.Waits = 2
		s := played(t, c, table, asks("/a"), asks("/b"), asks("/c"), goes(0))
		for _, n := range []int{2, 1} {
			want := server.Own(s)
			want.Flights[n].Waits = true
			want.World.Queue = append(want.World.Queue, n)
			doIs(t, s, goes(n), want, api.OK)
			s = want
			doIs(t, s, goes(n), s, api.ErrWait)
		}
		for n, next := range []int{2, -1, 1} {
			if next < 0 { // 1 waits still
				doIs(t, s, goes(n), s, api.ErrWait)
				continue
			}
			want := server.Own(s)
			want.World.Marks = append(want.World.Marks, api.Mark{ID: n, Filter: -1, Call: api.CallUp})
			want.World.Ledger.Holds = append(want.World.Ledger.Holds[:3], api.Hold{ID: next, Kind: api.HoldLease, Filter: -1})
			want.World.Queue = want.World.Queue[1:]
			want.Flights[n].Phase, want.Flights[n].Msg = api.PhaseGive, msg.Answer(200, "yes")
			want.Flights[next].Waits = false
			doIs(t, s, goes(n), want, api.OK)
			s = want
		}
		if x, err := server.Do(s, goes(1), table); err != api.OK || x.Flights[1].Msg.Status != 200 || len(x.World.Queue) != 0 {
			t.Errorf("%+v, %v comes", x, err)
		}
	}
}

// TestJ1GoWaitsNotForGiving: what others than the one with the lease do lets nobody go on who waits.
func TestJ1GoWaitsNotForGiving(t *testing.T) {
	c := conf(wild(3))
	for _, table := range tables() {
		s := played(t, c, table, asks("/a"), asks("/b"), asks("/c"), goes(0), goes(0), goes(1), goes(1), goes(2))
		if !s.Flights[1].Waits || !slices.Equal(s.World.Queue, []int{1}) {
			t.Fatalf("%+v comes", s)
		}
		for _, step := range []api.Step{goes(2), asks("/d"), ticks(), goes(2), goes(2)} { // no room to wait for 2
			var err api.Errno
			if s, err = server.Do(s, step, table); err != api.OK || !s.Flights[1].Waits {
				t.Errorf("%+v: %+v, %v comes", step, s, err)
			}
		}
		if s.Flights[2].Msg.Status != 504 || s.Flights[2].Phase != api.PhaseDone {
			t.Errorf("%+v comes", s.Flights[2])
		}
	}
}

// TestJ1GoShares: what asks do to the world is there for the others: gates count, and who is asked fails so often in all.
func TestJ1GoShares(t *testing.T) {
	c := conf(api.Sieve{Kind: api.SieveGate, N: 2})
	c.Ups[0].Fails = 1
	for _, table := range tables() {
		s := played(t, c, table, asks("/a"), asks("/b"), asks("/c"), goes(0), goes(1), goes(2), goes(1), goes(1), goes(0), goes(0))
		if !slices.Equal(s.World.Gates, []int{2}) || !slices.Equal(s.World.Failed, []int{1}) {
			t.Errorf("%+v comes", s.World)
		}
		for n, status := range []int{200, 502, 429} {
			if s.Flights[n].Msg.Status != status {
				t.Errorf("%d: %+v comes", n, s.Flights[n])
			}
		}
	}
}

// TestJ1GoBads: bads are met by the ask of that number alone.
func TestJ1GoBads(t *testing.T) {
	c := conf(wild(1))
	c.Bads = []api.Bad{{ID: 1, Filter: 0, Call: api.CallAsk, Do: api.DoFatal}, {ID: 2, Filter: 0, Call: api.CallAsk, Do: api.DoStop, Text: "so"}}
	for _, table := range tables() {
		s := played(t, c, table, asks("/a"), asks("/a"), asks("/a"), goes(2), goes(0), goes(1))
		for n, want := range []api.Msg{{}, msg.Answer(500, "fatal"), msg.Answer(200, "so")} {
			if f := s.Flights[n]; !msg.Same(f.Msg, want) || f.Fatal != (n == 1) || len(f.Faults) != n%2 {
				t.Errorf("%d: %+v comes", n, f)
			}
		}
	}
}

// TestJ1Tick: gates are noughts, as many as there were; all else is as it was.
func TestJ1Tick(t *testing.T) {
	for _, s := range []api.Server{fresh(t, conf()), fresh(t, full()), crowd(), empties()} {
		for i := range s.World.Gates {
			s.World.Gates[i] = i % 5
		}
		want := server.Own(s)
		want.World.Gates = make([]int, len(s.World.Gates))
		doIs(t, s, ticks(), want, api.OK)
		doIs(t, want, ticks(), want, api.OK)
		doIs(t, s, api.Step{Kind: api.StepTick, N: math.MinInt, Msg: api.Msg{Status: -1}}, want, api.OK)
	}
}

// TestJ1TickOpensGates: so many asks a tick, and so many again.
func TestJ1TickOpensGates(t *testing.T) {
	c := conf(wild(0), api.Sieve{Kind: api.SieveGate, N: 1})
	for _, table := range tables() {
		s := played(t, c, table, asks("/a"), asks("/b"), asks("/c"), goes(0), goes(1), ticks(), goes(2))
		if s.Flights[0].Phase != api.PhaseUp || s.Flights[1].Msg.Status != 429 || s.Flights[2].Phase != api.PhaseUp || !slices.Equal(s.World.Gates, []int{0, 1}) {
			t.Errorf("%+v comes", s)
		}
	}
}

// TestJ1Kind: a kind that there is not, whatever else the step has.
func TestJ1Kind(t *testing.T) {
	for _, kind := range append(numbers(), 0, 4, 5, 257, 258, 1<<32+2, 1<<32+3) {
		for _, step := range []api.Step{{Kind: kind}, {Kind: kind, N: 1, Msg: api.Msg{Path: "/a"}}, {Kind: kind, N: -1, Msg: api.Msg{Status: 7}}} {
			for _, s := range []api.Server{fresh(t, conf()), fresh(t, full()), crowd()} {
				doIs(t, s, step, s, api.ErrKind)
			}
		}
	}
}

// TestJ1OtherFields: what a kind of step has not means nothing.
func TestJ1OtherFields(t *testing.T) {
	s := crowd()
	for _, n := range append(numbers(), 0, 1, 2, 3, 4) {
		want, wantErr := server.Do(s, asks("/a"), false)
		doIs(t, s, api.Step{Kind: api.StepAsk, N: n, Msg: api.Msg{Path: "/a"}}, want, wantErr)
	}
	for _, m := range []api.Msg{{Path: "/a"}, {Status: 200}, {Status: -1, Path: "\n"}} {
		want, wantErr := server.Do(s, goes(1), false)
		doIs(t, s, api.Step{Kind: api.StepGo, N: 1, Msg: m}, want, wantErr)
	}
}

// TestJ1Strange: servers that no New and no Do made: each call ends, and none panics.
func TestJ1Strange(t *testing.T) {
	queued := crowd()
	queued.World.Queue = []int{99, -7, math.MaxInt}
	other := crowd()
	other.World.Gates, other.World.Failed, other.Conf.Sieves = nil, nil, nil
	for _, s := range []api.Server{{}, empties(), strange(), queued, other, {Conf: full()}, {Flights: make([]api.Flight, 3)}, {World: crowd().World}} {
		for _, step := range []api.Step{{}, asks("/a"), asks(""), goes(0), goes(1), goes(2), goes(3), goes(math.MaxInt), ticks(), {Kind: -1}} {
			for _, table := range tables() {
				if x, err := server.Do(s, step, table); err != api.OK && !same(x, s) {
					t.Errorf("%+v of %+v: %+v, %v comes", step, s, x, err)
				}
			}
		}
	}
}
