package server_test

import (
	"math/rand/v2"
	"slices"
	"sync"
	"testing"

	"sieveworks/api"
	"sieveworks/server"
)

// room puts something behind a list that nobody may touch or look at; whole has it in the list.
func room[T any](l []T, behind ...T) (short, whole []T) {
	whole = slices.Concat(l, behind)
	return whole[:len(l)], whole
}

// roomyConf has filters, ups and bads behind its lists that would count if they stood in them.
func roomyConf(c api.Conf) (short, whole api.Conf) {
	short, whole = c, c
	short.Sieves, whole.Sieves = room(c.Sieves, wild(7), wild(7), api.Sieve{Kind: -1})
	short.Ups, whole.Ups = room(c.Ups, api.Up{Path: "", Status: 299, Text: "behind"}, api.Up{}, api.Up{}, api.Up{}, api.Up{})
	var bads []api.Bad
	for n := range 16 {
		bads = append(bads, api.Bad{ID: n % 4, Filter: n / 4, Call: 1 + (n+n/4)%4, Do: api.DoPanic, Text: "behind"})
	}
	short.Bads, whole.Bads = room(c.Bads, bads...)
	return short, whole
}

func roomyWorld(w api.World) (short, whole api.World) {
	short, whole = w, w
	short.Ledger.Holds, whole.Ledger.Holds = room(w.Ledger.Holds, api.Hold{ID: 0, Kind: 2, Filter: -1}, api.Hold{ID: 1, Kind: 3}, api.Hold{ID: 2, Kind: 1, Filter: -1})
	short.Gates, whole.Gates = room(w.Gates, 41, 42)
	short.Failed, whole.Failed = room(w.Failed, 51, 52)
	short.Queue, whole.Queue = room(w.Queue, 0, 1, 2)
	short.Marks, whole.Marks = room(w.Marks, api.Mark{ID: 61, Filter: 62, Call: 63}, api.Mark{ID: 64})
	return short, whole
}

func roomyMsg(m api.Msg) (short, whole api.Msg) {
	short, whole = m, m
	short.Heads, whole.Heads = room(m.Heads, api.Head{Key: "k", Text: "w"}, api.Head{Key: "behind", Text: "it"})
	short.Body, whole.Body = room(m.Body, []byte("behind")...)
	return short, whole
}

func roomyFlight(f api.Flight) (short, whole api.Flight) {
	short, whole = f, f
	short.Ask, whole.Ask = roomyMsg(f.Ask)
	short.Msg, whole.Msg = roomyMsg(f.Msg)
	short.Passed, whole.Passed = room(f.Passed, 0, 1, 2)
	short.Again, whole.Again = room(f.Again, 3, 4, 5)
	short.Faults, whole.Faults = room(f.Faults, api.Fault{Kind: 71, Filter: 72}, api.Fault{Text: "behind"})
	return short, whole
}

// handed is a server and a step that are handed in, with spare room behind each of their lists; whole ones have that in their lists. flights are the asks themselves, and those in the room behind them.
type handed struct {
	s, sWhole       api.Server
	step, stepWhole api.Step
	flights         []api.Flight
}

func hand(s api.Server, step api.Step) handed {
	h := handed{step: step, stepWhole: step}
	h.s.Conf, h.sWhole.Conf = roomyConf(s.Conf)
	h.s.World, h.sWhole.World = roomyWorld(s.World)
	for _, f := range append(slices.Clone(s.Flights), api.Flight{ID: 81, Phase: 1}, api.Flight{ID: 82, Phase: 2, Waits: true}) {
		short, whole := roomyFlight(f)
		h.s.Flights, h.sWhole.Flights = append(h.s.Flights, short), append(h.sWhole.Flights, whole)
	}
	h.flights = h.s.Flights
	h.s.Flights = h.flights[:len(s.Flights)]
	h.step.Msg, h.stepWhole.Msg = roomyMsg(step.Msg)
	return h
}

// same tells whether all that was handed in is as it was, the spare room too.
func (h handed) same(o handed) bool {
	return same(h.sWhole, o.sWhole) && slices.EqualFunc(h.flights, o.flights, sameFlight) && sameFlight(api.Flight{Msg: h.stepWhole.Msg}, api.Flight{Msg: o.stepWhole.Msg})
}

func (h handed) scribble() {
	scribble(h.s)
	scribbleMsg(h.step.Msg)
}

// fill writes over a list, and over its spare room.
func fill[T any](l []T, x T) {
	l = l[:cap(l)]
	for i := range l {
		l[i] = x
	}
}

func scribbleConf(c api.Conf) {
	fill(c.Sieves, api.Sieve{Kind: -9})
	fill(c.Ups, api.Up{Path: "?", Status: -9})
	fill(c.Bads, api.Bad{ID: -9})
}

func scribbleWorld(w api.World) {
	fill(w.Ledger.Holds, api.Hold{ID: -9, Kind: -9, Filter: -9})
	fill(w.Gates, -9)
	fill(w.Failed, -9)
	fill(w.Queue, -9)
	fill(w.Marks, api.Mark{ID: -9, Filter: -9, Call: -9})
}

func scribbleMsg(m api.Msg) {
	fill(m.Heads, api.Head{Key: "?", Text: "?"})
	fill(m.Body, '?')
}

func scribbleFlight(f api.Flight) {
	scribbleMsg(f.Ask)
	scribbleMsg(f.Msg)
	fill(f.Passed, -9)
	fill(f.Again, -9)
	fill(f.Faults, api.Fault{Kind: -9, Text: "?"})
}

func scribble(s api.Server) {
	scribbleConf(s.Conf)
	scribbleWorld(s.World)
	for _, f := range s.Flights[:cap(s.Flights)] {
		scribbleFlight(f)
	}
	fill(s.Flights, api.Flight{ID: -9})
}

// lists are the ways to write over just one list of a server.
func lists(s api.Server) []func() {
	out := []func(){
		func() { fill(s.Conf.Sieves, api.Sieve{Kind: -9}) }, func() { fill(s.Conf.Ups, api.Up{Status: -9}) }, func() { fill(s.Conf.Bads, api.Bad{ID: -9}) },
		func() { fill(s.World.Ledger.Holds, api.Hold{ID: -9}) }, func() { fill(s.World.Gates, -9) }, func() { fill(s.World.Failed, -9) },
		func() { fill(s.World.Queue, -9) }, func() { fill(s.World.Marks, api.Mark{ID: -9}) },
	}
	for _, f := range s.Flights {
		out = append(out, func() { fill(f.Ask.Heads, api.Head{Key: "?"}) }, func() { fill(f.Ask.Body, '?') }, func() { fill(f.Msg.Heads, api.Head{Key: "?"}) }, func() { fill(f.Msg.Body, '?') },
			func() { fill(f.Passed, -9) }, func() { fill(f.Again, -9) }, func() { fill(f.Faults, api.Fault{Kind: -9}) })
	}
	return out
}

// changed counts in how many lists servers differ that had the same before.
func changed(a, b api.Server) int {
	n := 0
	count := func(same bool) {
		if !same {
			n++
		}
	}
	count(slices.Equal(a.Conf.Sieves, b.Conf.Sieves))
	count(slices.Equal(a.Conf.Ups, b.Conf.Ups))
	count(slices.Equal(a.Conf.Bads, b.Conf.Bads))
	count(slices.Equal(a.World.Ledger.Holds, b.World.Ledger.Holds))
	count(slices.Equal(a.World.Gates, b.World.Gates))
	count(slices.Equal(a.World.Failed, b.World.Failed))
	count(slices.Equal(a.World.Queue, b.World.Queue))
	count(slices.Equal(a.World.Marks, b.World.Marks))
	for i, f := range a.Flights {
		g := b.Flights[i]
		count(slices.Equal(f.Ask.Heads, g.Ask.Heads))
		count(slices.Equal(f.Ask.Body, g.Ask.Body))
		count(slices.Equal(f.Msg.Heads, g.Msg.Heads))
		count(slices.Equal(f.Msg.Body, g.Msg.Body))
		count(slices.Equal(f.Passed, g.Passed))
		count(slices.Equal(f.Again, g.Again))
		count(slices.Equal(f.Faults, g.Faults))
	}
	return n
}

// alone: no two lists of one answer share any memory, their spare room too.
func alone(t *testing.T, made func() api.Server) {
	t.Helper()
	for i := range lists(made()) {
		s, want := made(), made()
		lists(s)[i]()
		if n := changed(s, want); n > 1 {
			t.Fatalf("list %d is changed, and so are %d others: %+v", i, n-1, s)
		}
	}
}

// TestJ1ConfSharesNothing: what is handed in and what comes back can go their own ways; nothing behind the lists is looked at.
func TestJ1ConfSharesNothing(t *testing.T) {
	for _, c := range []api.Conf{{}, {Conns: 1}, empties().Conf, full(), conf(sieves()[:4]...), strange().Conf} {
		in, whole := roomyConf(c)
		_, wantWhole := roomyConf(c)
		got := server.Conf(in)
		if !sameConf(got, c) || !sameConf(whole, wantWhole) {
			t.Errorf("%+v comes of %+v, and %+v is left", got, c, whole)
		}
		scribbleConf(in)
		if !sameConf(got, c) {
			t.Errorf("%+v is left of %+v", got, c)
		}
		in, whole = roomyConf(c)
		scribbleConf(server.Conf(in))
		if !sameConf(whole, wantWhole) {
			t.Errorf("%+v is left of what was handed in", whole)
		}
	}
}

// TestJ1OwnSharesNothing: the same of whole servers, and so can the lists of what comes back.
func TestJ1OwnSharesNothing(t *testing.T) {
	for _, s := range []api.Server{{}, empties(), crowd(), strange(), fresh(t, full()), {Flights: make([]api.Flight, 3)}} {
		in := hand(s, api.Step{})
		got := server.Own(in.s)
		if !same(got, s) || !in.same(hand(s, api.Step{})) {
			t.Errorf("%+v comes of %+v, and %+v is left", got, s, in)
		}
		in.scribble()
		if !same(got, s) {
			t.Errorf("%+v is left of %+v", got, s)
		}
		in = hand(s, api.Step{})
		scribble(server.Own(in.s))
		if !in.same(hand(s, api.Step{})) {
			t.Errorf("%+v is left of what was handed in", in)
		}
		alone(t, func() api.Server { return server.Own(s) })
	}
}

// TestJ1NewOnlyReads: the conf is as it was, nothing behind its lists is looked at, and neither it nor the server changes the other.
func TestJ1NewOnlyReads(t *testing.T) {
	wrong := full()
	wrong.Bads[7].Call = 0
	for _, c := range []api.Conf{{}, {Conns: 1}, empties().Conf, full(), conf(sieves()[:4]...), wrong} {
		in, whole := roomyConf(c)
		_, wantWhole := roomyConf(c)
		want, wantErr := server.New(c)
		got, err := server.New(in)
		if err != wantErr || !same(got, want) || !sameConf(whole, wantWhole) {
			t.Errorf("%+v, %v comes of %+v, and %+v is left", got, err, c, whole)
		}
		scribbleConf(in)
		if !same(got, want) {
			t.Errorf("%+v is left of %+v", got, want)
		}
		in, whole = roomyConf(c)
		got, _ = server.New(in)
		scribble(got)
		if !sameConf(whole, wantWhole) {
			t.Errorf("%+v is left of what was handed in", whole)
		}
		alone(t, func() api.Server {
			s, _ := server.New(c)
			return s
		})
	}
}

// keeps: the server and the step are as they were; nothing behind their lists is looked at; neither they nor what comes change each other.
func keeps(t *testing.T, s api.Server, step api.Step, table bool) {
	t.Helper()
	want, wantErr := server.Do(s, step, table)
	in := hand(s, step)
	got, err := server.Do(in.s, in.step, table)
	if err != wantErr || !same(got, want) {
		t.Fatalf("%+v with spare room: %+v, %v comes, not %+v, %v", step, got, err, want, wantErr)
	}
	if !in.same(hand(s, step)) {
		t.Fatalf("%+v: %+v is changed", step, in)
	}
	in.scribble()
	if !same(got, want) {
		t.Fatalf("%+v: %+v is left of the answer, not %+v", step, got, want)
	}
	in = hand(s, step)
	got, _ = server.Do(in.s, in.step, table)
	scribble(got)
	if !in.same(hand(s, step)) {
		t.Fatalf("%+v: %+v is changed by who was answered", step, in)
	}
}

// TestJ1DoOnlyReads: steps of every kind, with an error and without one, and whole ways of asks.
func TestJ1DoOnlyReads(t *testing.T) {
	m := api.Msg{Path: "/a", Heads: []api.Head{{Key: "a", Text: "1"}, {Key: "b", Text: "2"}}, Body: []byte("four")}
	small := fresh(t, api.Conf{Conns: 1})
	for _, s := range []api.Server{crowd(), fresh(t, full()), small, empties()} {
		for _, step := range []api.Step{comes(m), asks("x"), comes(api.Msg{Status: 200, Body: []byte("yes")}), goes(0), goes(1), goes(2), goes(3), goes(4), goes(-1), ticks(), {}, {Kind: 4, Msg: m}} {
			for _, table := range tables() {
				keeps(t, s, step, table)
				alone(t, func() api.Server {
					x, _ := server.Do(s, step, table)
					return x
				})
			}
		}
	}
	r := rand.New(rand.NewPCG(10, 2))
	for range 60 {
		play(t, r, func(s api.Server, step api.Step) { keeps(t, s, step, r.IntN(2) == 0) })
	}
}

// TestJ1AskIsOfThen: an ask that has come stays so, whatever becomes of the message that it came with, also if it was refused.
func TestJ1AskIsOfThen(t *testing.T) {
	for flights := range 2 {
		c := conf(wild(1))
		c.Flights = flights
		m := api.Msg{Path: "/a", Heads: []api.Head{{Key: "a", Text: "1"}}, Body: []byte("four")}
		s, _ := server.Do(fresh(t, c), comes(m), false)
		scribbleMsg(m)
		if f := last(s); string(f.Ask.Body) != "four" || f.Ask.Heads[0].Key != "a" {
			t.Errorf("%+v is left", f)
		}
	}
}

// TestJ1NothingIsKept: two ways may go from one server, and neither knows of the other; the same step answers the same.
func TestJ1NothingIsKept(t *testing.T) {
	c := conf(api.Sieve{Kind: api.SieveGate, N: 1})
	s := played(t, c, false, asks("/a"), asks("/b"))
	for range 3 {
		x, _ := server.Do(s, goes(0), false)
		y, _ := server.Do(s, goes(1), true)
		if x.Flights[0].Phase != api.PhaseUp || x.Flights[1].Phase != api.PhaseIn || y.Flights[0].Phase != api.PhaseIn || y.Flights[1].Phase != api.PhaseUp {
			t.Errorf("%+v and %+v come", x, y)
		}
		if z, _ := server.Do(x, goes(1), false); z.Flights[1].Msg.Status != 429 {
			t.Errorf("%+v comes", z)
		}
	}
}

// TestJ1AtOnce: calls may share what they are handed, for they only read it.
func TestJ1AtOnce(t *testing.T) {
	for _, step := range []api.Step{asks("/a"), goes(0), goes(1), goes(2), ticks(), {}} {
		s := crowd()
		in := hand(s, step)
		want, wantErr := server.Do(s, step, false)
		var all sync.WaitGroup
		for n := range 20 {
			all.Go(func() {
				x, err := server.Do(in.s, in.step, n%2 == 0)
				if err != wantErr || !same(x, want) {
					t.Errorf("%+v: %+v, %v comes", step, x, err)
				}
				scribble(x)
				scribble(server.Own(in.s))
				y, _ := server.New(in.s.Conf)
				scribble(y)
				scribbleConf(server.Conf(in.s.Conf))
			})
		}
		all.Wait()
		if !in.same(hand(s, step)) {
			t.Errorf("%+v is left", in)
		}
	}
}
