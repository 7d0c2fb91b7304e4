package server_test

import (
	"math"
	"slices"
	"strings"
	"testing"

	"sieveworks/api"
	"sieveworks/caps"
	"sieveworks/msg"
	"sieveworks/server"
)

// sieves are of every kind that there is; wild ones can each thing that they may.
func sieves() []api.Sieve {
	l := []api.Sieve{
		{Kind: api.SieveSet, Key: "k", Text: "v"}, {Kind: api.SieveMark, Key: "k", Text: "v"}, {Kind: api.SieveToken, Key: "k", Text: "v"},
		{Kind: api.SieveLimit, N: 3}, {Kind: api.SieveGate, N: 2}, {Kind: api.SieveRetry, N: 2},
	}
	for n := range 8 {
		l = append(l, wild(n))
	}
	return l
}

func wild(n int) api.Sieve { return api.Sieve{Kind: api.SieveWild, N: n} }

// conf has these filters, and room for some of all.
func conf(l ...api.Sieve) api.Conf {
	return api.Conf{Sieves: l, Ups: []api.Up{{Path: "/", Status: 200, Text: "yes"}}, Flights: 4, Conns: 1, Waits: 1, Timers: 2}
}

// full is a conf with as many filters, ups and bads as may be, made anew each time.
func full() api.Conf {
	c := api.Conf{Flights: 4, Conns: 4, Waits: 4, Timers: 4}
	for kind := api.SieveSet; kind <= api.SieveRetry; kind++ {
		c.Sieves = append(c.Sieves, api.Sieve{Kind: kind, N: 4, Key: "k", Text: "v"})
	}
	for n := range api.MaxUps {
		c.Ups = append(c.Ups, api.Up{Path: "/abcd"[:1+n], Status: 200 + n, Text: "yes", Fails: n})
	}
	for n := range api.MaxBads {
		c.Bads = append(c.Bads, api.Bad{ID: n, Filter: n % 6, Call: 1 + n%4, Do: n % 7, Text: "oh"})
	}
	return c
}

// fresh is a server of a conf that must be right.
func fresh(t *testing.T, c api.Conf) api.Server {
	t.Helper()
	s, err := server.New(c)
	if err != api.OK {
		t.Fatalf("%v comes of %+v", err, c)
	}
	return s
}

// crowd is a server with something in each of its lists: one is answered, one waits, one has a lease, one was too many; faults came, calls were made, gates have counted, who is asked has failed.
func crowd() api.Server {
	c := full()
	c.Conns = 1
	heads := []api.Head{{Key: "a", Text: "1"}, {Key: "b", Text: "2"}}
	return api.Server{
		Conf: c,
		World: api.World{
			Ledger: api.Ledger{Holds: []api.Hold{{ID: 1, Kind: 1, Filter: -1}, {ID: 2, Kind: 1, Filter: -1}, {ID: 1, Kind: 3, Filter: 2}, {ID: 1, Kind: 2, Filter: -1}}, Most: [4]int{0, 4, 1, 4}},
			Gates:  []int{0, 0, 0, 0, 3, 0}, Failed: []int{0, 1, 2, 0}, Queue: []int{2},
			Marks: []api.Mark{{ID: 0, Filter: 1, Call: 1}, {ID: 0, Filter: -1, Call: 5}, {ID: 1, Filter: 0, Call: 1}},
		},
		Flights: []api.Flight{
			{ID: 0, Phase: api.PhaseDone, Ask: api.Msg{Path: "/a", Heads: heads[:1:1]}, Msg: msg.Answer(500, "panic"), Passed: []int{0, 1}, Again: []int{0, 0, 0, 0, 0, 2}, Faults: []api.Fault{{Kind: api.FaultPanic, Filter: 1, Call: 1, Text: "oh"}}, Fatal: true},
			{ID: 1, Phase: api.PhaseUp, Ask: api.Msg{Path: "/b", Heads: slices.Clone(heads), Body: []byte("body")}, Passed: []int{0, 1, 2, 3, 4, 5}, Again: make([]int, 6)},
			{ID: 2, Phase: api.PhaseUp, Ask: api.Msg{Path: "/c"}, Passed: []int{0, 1, 2, 3, 4, 5}, Again: make([]int, 6), Waits: true},
			{ID: 3, Phase: api.PhaseDone, Ask: api.Msg{Path: "/d", Body: []byte("x")}, Msg: api.Msg{Status: 503, Body: []byte("overload"), Heads: slices.Clone(heads)}, Again: make([]int, 6), Faults: []api.Fault{{Kind: api.FaultOverload, Filter: -1}}},
		},
	}
}

// strange could not come of New and Do.
func strange() api.Server {
	return api.Server{
		Conf:    api.Conf{Sieves: []api.Sieve{{Kind: -1, N: math.MaxInt, Key: "\n"}}, Ups: []api.Up{{Status: -3}}, Bads: []api.Bad{{Call: 9}}, Flights: -1, Conns: math.MinInt, Waits: 99, Timers: math.MaxInt},
		World:   api.World{Ledger: api.Ledger{Holds: []api.Hold{{Kind: 9}}, Most: [4]int{9, -9, 9, -9}}, Gates: []int{-1, 7, 7}, Queue: []int{-7, math.MaxInt}},
		Flights: []api.Flight{{ID: 7, Phase: 99, At: math.MinInt, Passed: []int{-1}}, {}, {Waits: true, Fatal: true, Ask: api.Msg{Status: -1}}},
	}
}

// sameConf and those below take nil and a list without entries for the same.
func sameConf(a, b api.Conf) bool {
	return slices.Equal(a.Sieves, b.Sieves) && slices.Equal(a.Ups, b.Ups) && slices.Equal(a.Bads, b.Bads) &&
		a.Flights == b.Flights && a.Conns == b.Conns && a.Waits == b.Waits && a.Timers == b.Timers
}

func sameWorld(a, b api.World) bool {
	return a.Ledger.Most == b.Ledger.Most && slices.Equal(a.Ledger.Holds, b.Ledger.Holds) && slices.Equal(a.Gates, b.Gates) &&
		slices.Equal(a.Failed, b.Failed) && slices.Equal(a.Queue, b.Queue) && slices.Equal(a.Marks, b.Marks)
}

func sameFlight(a, b api.Flight) bool {
	return a.ID == b.ID && a.Phase == b.Phase && a.At == b.At && msg.Same(a.Ask, b.Ask) && msg.Same(a.Msg, b.Msg) && slices.Equal(a.Passed, b.Passed) &&
		slices.Equal(a.Again, b.Again) && slices.Equal(a.Faults, b.Faults) && a.Waits == b.Waits && a.Fatal == b.Fatal
}

func same(a, b api.Server) bool {
	return sameConf(a.Conf, b.Conf) && sameWorld(a.World, b.World) && slices.EqualFunc(a.Flights, b.Flights, sameFlight)
}

// empties has lists without entries where others have none.
func empties() api.Server {
	return api.Server{
		Conf:    api.Conf{Sieves: []api.Sieve{}, Ups: []api.Up{}, Bads: []api.Bad{}, Conns: 1},
		World:   api.World{Ledger: api.Ledger{Holds: []api.Hold{}, Most: [4]int{0, 0, 1, 0}}, Gates: []int{}, Failed: []int{}, Queue: []int{}, Marks: []api.Mark{}},
		Flights: []api.Flight{},
	}
}

func TestJ1Conf(t *testing.T) {
	for _, c := range []api.Conf{{}, {Conns: 1}, empties().Conf, full(), conf(sieves()[:3]...), strange().Conf, {Flights: 1, Conns: 2, Waits: 3, Timers: 4}} {
		if got := server.Conf(c); !sameConf(got, c) {
			t.Errorf("Conf(%+v): %+v comes", c, got)
		}
	}
}

func TestJ1Own(t *testing.T) {
	for _, s := range []api.Server{{}, empties(), crowd(), strange(), {Flights: make([]api.Flight, 3)}, {Conf: full()}, {World: crowd().World}} {
		if got := server.Own(s); !same(got, s) {
			t.Errorf("Own(%+v): %+v comes", s, got)
		}
	}
}

// TestJ1New: the conf, what there is of each kind, and a nought for each filter, and for each up.
func TestJ1New(t *testing.T) {
	for filters := range api.MaxSieves + 1 {
		for ups := range api.MaxUps + 1 {
			c := full()
			c.Sieves, c.Ups = c.Sieves[:filters], c.Ups[:ups]
			c.Flights, c.Conns, c.Waits, c.Timers = filters%5, 1+ups%4, 4-filters%5, (filters+ups)%5
			want := api.Server{Conf: c, World: api.World{Ledger: api.Ledger{Most: [4]int{0, c.Flights, c.Conns, c.Timers}}, Gates: make([]int, filters), Failed: make([]int, ups)}}
			if got, err := server.New(c); err != api.OK || !same(got, want) {
				t.Errorf("New(%+v): %+v, %v comes", c, got, err)
			}
		}
	}
	for _, c := range []api.Conf{{Conns: 1}, empties().Conf} {
		got, err := server.New(c)
		if err != api.OK || !same(got, empties()) {
			t.Errorf("New(%+v): %+v, %v comes", c, got, err)
		}
	}
}

// TestJ1NewLimits: each of the four is its own.
func TestJ1NewLimits(t *testing.T) {
	for _, l := range [][4]int{{0, 1, 0, 0}, {4, 1, 2, 3}, {1, 2, 3, 4}, {3, 4, 1, 2}, {4, 4, 4, 4}} {
		s := fresh(t, api.Conf{Flights: l[0], Conns: l[1], Waits: l[2], Timers: l[3]})
		if s.World.Ledger.Most != [4]int{0, l[0], l[1], l[3]} || len(s.World.Ledger.Holds)+len(s.Flights) != 0 || s.Conf.Waits != l[2] {
			t.Errorf("%v: %+v comes", l, s)
		}
	}
}

// newIsWrong: the error alone comes, and beside it a server with nothing in it.
func newIsWrong(t *testing.T, want api.Errno, change func(c *api.Conf)) {
	t.Helper()
	c := full()
	change(&c)
	if err, _ := caps.Wrong(c); err != want {
		t.Errorf("%v is wrong with %+v, not %v", err, c, want)
	}
	got, err := server.New(c)
	if err != want || !same(got, api.Server{}) {
		t.Errorf("New(%+v): %+v, %v comes, not %v", c, got, err, want)
	}
}

// TestJ1NewWrong: each error that a conf may have.
func TestJ1NewWrong(t *testing.T) {
	newIsWrong(t, api.ErrRange, func(c *api.Conf) { *c = api.Conf{} })
	newIsWrong(t, api.ErrMany, func(c *api.Conf) { c.Sieves = append(c.Sieves, wild(0)) })
	newIsWrong(t, api.ErrMany, func(c *api.Conf) { c.Ups = append(c.Ups, api.Up{Status: 200}) })
	newIsWrong(t, api.ErrMany, func(c *api.Conf) { c.Bads = append(c.Bads, api.Bad{Call: 1}) })
	for _, n := range []int{-1, 5, math.MinInt, math.MaxInt, 1<<32 + 1} {
		newIsWrong(t, api.ErrRange, func(c *api.Conf) { c.Flights = n })
		newIsWrong(t, api.ErrRange, func(c *api.Conf) { c.Conns = n })
		newIsWrong(t, api.ErrRange, func(c *api.Conf) { c.Waits = n })
		newIsWrong(t, api.ErrRange, func(c *api.Conf) { c.Timers = n })
		newIsWrong(t, api.ErrRange, func(c *api.Conf) { c.Sieves[5].N = n })
		newIsWrong(t, api.ErrRange, func(c *api.Conf) { c.Ups[3].Fails = n })
		newIsWrong(t, api.ErrKind, func(c *api.Conf) { c.Bads[7].Call = n })
	}
	newIsWrong(t, api.ErrRange, func(c *api.Conf) { c.Conns = 0 })
	newIsWrong(t, api.ErrName, func(c *api.Conf) { c.Sieves[0].Key = "" })
	newIsWrong(t, api.ErrName, func(c *api.Conf) { c.Sieves[2].Text = "\n" })
	newIsWrong(t, api.ErrKind, func(c *api.Conf) { c.Sieves[5].Kind = 8 })
	newIsWrong(t, api.ErrRange, func(c *api.Conf) { c.Ups[0].Status = 99 })
	newIsWrong(t, api.ErrRange, func(c *api.Conf) { c.Ups[3].Text = strings.Repeat("x", api.MaxBody+1) })
	newIsWrong(t, api.ErrRange, func(c *api.Conf) { c.Ups[3].Path = strings.Repeat("/", api.MaxPath+1) })
	newIsWrong(t, api.ErrKind, func(c *api.Conf) { c.Bads[0].Call = api.CallUp })
	newIsWrong(t, api.ErrKind, func(c *api.Conf) { c.Bads[7].Do = api.DoAgain + 1 })
	newIsWrong(t, api.ErrKind, func(c *api.Conf) { c.Bads[7].Do = -1 })
	newIsWrong(t, api.ErrMuch, func(c *api.Conf) { c.Bads[7].Text = strings.Repeat("x", api.MaxLine+1) })
	newIsWrong(t, api.ErrRange, func(c *api.Conf) { c.Sieves[5].N, c.Bads[0].Call = 5, 0 })
}
