package chain_test

import (
	"math/rand/v2"
	"slices"
	"sync"
	"testing"

	"sieveworks/api"
	"sieveworks/chain"
)

// room puts something behind a list that nobody may touch or look at; whole has it in the list.
func room[T any](l []T, behind ...T) (short, whole []T) {
	whole = slices.Concat(l, behind)
	return whole[:len(l)], whole
}

// roomyWorld has spare room behind each list; whole has that room in its lists.
func roomyWorld(w api.World) (short, whole api.World) {
	short, whole = w, w
	short.Ledger.Holds, whole.Ledger.Holds = room(w.Ledger.Holds, api.Hold{ID: 0, Kind: 2, Filter: -1}, api.Hold{ID: 1, Kind: 3}, api.Hold{ID: 2, Kind: 1, Filter: -1})
	short.Gates, whole.Gates = room(w.Gates, 41, 42)
	short.Failed, whole.Failed = room(w.Failed, 51, 52)
	short.Queue, whole.Queue = room(w.Queue, 0, 1, 2)
	short.Marks, whole.Marks = room(w.Marks, api.Mark{ID: 61, Filter: 62, Call: 63}, api.Mark{ID: 64})
	return short, whole
}

func roomyMsg(m api.Msg) (short, whole api.Msg) {
	short, whole = m, m
	short.Heads, whole.Heads = room(m.Heads, api.Head{Key: "k", Text: "w"}, api.Head{Key: "behind", Text: "it"})
	short.Body, whole.Body = room(m.Body, []byte("behind")...)
	return short, whole
}

func roomyFlight(f api.Flight) (short, whole api.Flight) {
	short, whole = f, f
	short.Ask, whole.Ask = roomyMsg(f.Ask)
	short.Msg, whole.Msg = roomyMsg(f.Msg)
	short.Passed, whole.Passed = room(f.Passed, 0, 1, 2)
	short.Again, whole.Again = room(f.Again, 3, 4, 5)
	short.Faults, whole.Faults = room(f.Faults, api.Fault{Kind: 71, Filter: 72}, api.Fault{Text: "behind"})
	return short, whole
}

// roomyConf has bads, filters and ups behind its lists that would count if they stood in them.
func roomyConf(c api.Conf) (short, whole api.Conf) {
	short, whole = c, c
	short.Sieves, whole.Sieves = room(c.Sieves, wild(7), wild(7))
	short.Ups, whole.Ups = room(c.Ups, api.Up{Path: "", Status: 299, Text: "behind"})
	var bads []api.Bad
	for id := range 4 {
		for filter := range 3 {
			bads = append(bads, api.Bad{ID: id, Filter: filter, Call: 1 + (id+filter)%4, Do: api.DoPanic, Text: "behind"})
		}
	}
	short.Bads, whole.Bads = room(c.Bads, bads...)
	return short, whole
}

// fill writes over a list, and over its spare room.
func fill[T any](l []T, x T) {
	l = l[:cap(l)]
	for i := range l {
		l[i] = x
	}
}

func scribbleWorld(w api.World) {
	fill(w.Ledger.Holds, api.Hold{ID: -9, Kind: -9, Filter: -9})
	fill(w.Gates, -9)
	fill(w.Failed, -9)
	fill(w.Queue, -9)
	fill(w.Marks, api.Mark{ID: -9, Filter: -9, Call: -9})
}

func scribbleFlight(f api.Flight) {
	fill(f.Ask.Heads, api.Head{Key: "?", Text: "?"})
	fill(f.Ask.Body, '?')
	fill(f.Msg.Heads, api.Head{Key: "?", Text: "?"})
	fill(f.Msg.Body, '?')
	fill(f.Passed, -9)
	fill(f.Again, -9)
	fill(f.Faults, api.Fault{Kind: -9, Text: "?"})
}

func scribbleConf(c api.Conf) {
	fill(c.Sieves, api.Sieve{Kind: -9})
	fill(c.Ups, api.Up{Path: "?", Status: -9})
	fill(c.Bads, api.Bad{ID: -9})
}

func sameConf(a, b api.Conf) bool {
	return slices.Equal(a.Sieves, b.Sieves) && slices.Equal(a.Ups, b.Ups) && slices.Equal(a.Bads, b.Bads) &&
		a.Flights == b.Flights && a.Conns == b.Conns && a.Waits == b.Waits && a.Timers == b.Timers
}

// handed is all that is handed in, with spare room behind its lists.
type handed struct {
	c, cWhole api.Conf
	w, wWhole api.World
	f, fWhole api.Flight
}

func hand(c api.Conf, w api.World, f api.Flight) handed {
	var h handed
	h.c, h.cWhole = roomyConf(c)
	h.w, h.wWhole = roomyWorld(w)
	h.f, h.fWhole = roomyFlight(f)
	return h
}

// same tells whether all that was handed in is as it was, the spare room too.
func (h handed) same(o handed) bool {
	return sameConf(h.cWhole, o.cWhole) && sameWorld(h.wWhole, o.wWhole) && sameFlight(h.fWhole, o.fWhole)
}

func (h handed) scribble() {
	scribbleConf(h.c)
	scribbleWorld(h.w)
	scribbleFlight(h.f)
}

// TestH2OnlyReads: at each step of asks all that is handed in is as it was; nothing behind the lists is looked at; and neither answers nor what was handed in change each other.
func TestH2OnlyReads(t *testing.T) {
	r := rand.New(rand.NewPCG(8, 6))
	for range 300 {
		play(t, r, func(c api.Conf, w api.World, f api.Flight) {
			wantW, wantF, wantNext, wantErr := chain.Step(c, w, f)
			wantW, wantF = deepWorld(wantW), deepFlight(wantF)
			for _, step := range []func(h handed) (api.World, api.Flight, int, api.Errno){
				func(h handed) (api.World, api.Flight, int, api.Errno) { return chain.Step(h.c, h.w, h.f) },
				func(h handed) (api.World, api.Flight, int, api.Errno) {
					return chain.By(h.c, h.w, h.f, chain.Asked(c))
				},
			} {
				in := hand(c, w, f)
				x, y, next, err := step(in)
				if next != wantNext || err != wantErr || !sameWorld(x, wantW) || !sameFlight(y, wantF) {
					t.Fatalf("with spare room: %+v\n%+v, %d, %v comes, not %+v\n%+v, %d, %v", x, y, next, err, wantW, wantF, wantNext, wantErr)
				}
				if !in.same(hand(c, w, f)) {
					t.Fatalf("%+v is changed", in)
				}
				in.scribble()
				if !sameWorld(x, wantW) || !sameFlight(y, wantF) {
					t.Fatalf("%+v\n%+v is left of the answer, not %+v\n%+v", x, y, wantW, wantF)
				}
				in = hand(c, w, f)
				x, y, _, _ = step(in)
				scribbleWorld(x)
				if !sameFlight(y, wantF) {
					t.Fatalf("the ask shares something with the world: %+v", y)
				}
				scribbleFlight(y)
				if !in.same(hand(c, w, f)) {
					t.Fatalf("%+v is changed by who was answered", in)
				}
			}
		})
	}
}

// TestH1StartOnlyReads: the same of Start.
func TestH1StartOnlyReads(t *testing.T) {
	for _, l := range [][]api.Sieve{nil, {wild(2)}, {wild(2), wild(6), wild(1)}, {wild(1), wild(1)}} {
		c := conf(l...)
		w, f := world(c, 5), flight(c, 5, 0, 0)
		want := chain.Start(c, w, f, chain.Asked(c))
		in := hand(c, w, f)
		got := chain.Start(in.c, in.w, in.f, chain.Asked(c))
		if !sameFlight(got, want) || !in.same(hand(c, w, f)) {
			t.Errorf("%+v comes of %+v", got, in)
		}
		in.scribble()
		if !sameFlight(got, want) {
			t.Errorf("%+v is left, not %+v", got, want)
		}
		in = hand(c, w, f)
		scribbleFlight(chain.Start(in.c, in.w, in.f, chain.Asked(c)))
		if !in.same(hand(c, w, f)) {
			t.Errorf("%+v is changed by who was answered", in)
		}
	}
}

// TestH1OwnSharesNothing: what is handed in and what comes back can go their own ways, and so can the lists of what comes back.
func TestH1OwnSharesNothing(t *testing.T) {
	full := flight(wilds(3), 5, api.PhaseOut, 1, 0, 1, 2)
	full.Faults = []api.Fault{{Kind: 2, Filter: 1, Call: 2, Text: "x"}}
	full.Msg.Heads = []api.Head{{Key: "k", Text: "v"}}
	for _, f := range []api.Flight{{}, full, flight(conf(), 5, api.PhaseUp, 0)} {
		short, whole := roomyFlight(f)
		_, wantWhole := roomyFlight(f)
		got := chain.Own(short)
		if !sameFlight(got, f) || !sameFlight(whole, wantWhole) {
			t.Errorf("%+v comes of %+v, and %+v is left", got, f, whole)
		}
		scribbleFlight(short)
		if !sameFlight(got, f) {
			t.Errorf("%+v is left of %+v", got, f)
		}
		short, whole = roomyFlight(f)
		scribbleFlight(chain.Own(short))
		if !sameFlight(whole, wantWhole) {
			t.Errorf("%+v is left of what was handed in", whole)
		}
		got = chain.Own(f)
		fill(got.Ask.Heads, api.Head{Key: "?"})
		fill(got.Ask.Body, '?')
		fill(got.Passed, -9)
		if got.Ask, got.Passed = f.Ask, f.Passed; !sameFlight(got, f) {
			t.Errorf("%+v is left: lists of one answer share something", got)
		}
	}
}

// TestH1AskedIsOfThen: what Asked answers tells of the filters as they were, whatever becomes of the conf.
func TestH1AskedIsOfThen(t *testing.T) {
	c, whole := roomyConf(conf(wild(1), wild(6)))
	asked := chain.Asked(c)
	check := func() {
		t.Helper()
		if !asked(0, 1) || asked(0, 2) || asked(0, 3) || asked(1, 1) || !asked(1, 2) || !asked(1, 3) || asked(2, 1) || asked(3, 1) {
			t.Errorf("%v of %v", asked(0, 1), c.Sieves)
		}
	}
	check()
	c.Sieves[0], c.Sieves[1] = wild(6), wild(1)
	check()
	scribbleConf(whole)
	check()
	if other := chain.Asked(conf(wild(4))); other(0, 1) || !other(0, 3) {
		t.Error("filters of another conf can what those can")
	}
	check()
}

// TestH2NothingIsKept: what is changed between calls is looked at anew.
func TestH2NothingIsKept(t *testing.T) {
	c := conf(api.Sieve{Kind: api.SieveGate, N: 1})
	w := world(c, 5)
	f := flight(c, 5, api.PhaseIn, 0)
	for range 3 {
		w.Gates[0] = 0
		x := marked(w, 5, 0, api.CallAsk)
		x.Gates[0] = 1
		stepIs(t, c, w, f, x, passes(f, 0, api.PhaseUp, 0), -1, api.OK)
		w.Gates[0] = 1
		stepIs(t, c, w, f, marked(w, 5, 0, api.CallAsk), says(f, api.PhaseGive, 0, 429, "gate"), -1, api.OK)
		c.Sieves[0].N = 2
		x.Gates[0] = 2
		stepIs(t, c, w, f, x, passes(f, 0, api.PhaseUp, 0), -1, api.OK)
		c.Sieves[0].N = 1
	}
}

// TestH2AtOnce: calls may share what they are handed, for they only read it.
func TestH2AtOnce(t *testing.T) {
	c := wilds(3)
	c.Bads = []api.Bad{{ID: 5, Filter: 1, Call: api.CallAsk, Do: api.DoPanic, Text: "oh"}}
	w := leased(c)
	for _, f := range append(phases(c), flight(c, 5, api.PhaseIn, 1, 0)) {
		in := hand(c, w, f)
		asked := chain.Asked(in.c)
		wantW, wantF, wantNext, wantErr := chain.Step(c, w, f)
		var all sync.WaitGroup
		for range 20 {
			all.Go(func() {
				x, y, next, err := chain.By(in.c, in.w, in.f, asked)
				if next != wantNext || err != wantErr || !sameWorld(x, wantW) || !sameFlight(y, wantF) {
					t.Errorf("%+v\n%+v, %d, %v comes", x, y, next, err)
				}
				scribbleWorld(x)
				scribbleFlight(y)
				scribbleFlight(chain.Own(in.f))
				scribbleFlight(chain.Start(in.c, in.w, in.f, asked))
			})
		}
		all.Wait()
		if !in.same(hand(c, w, f)) {
			t.Errorf("%+v is left", in)
		}
	}
}

// TestH4Long: many calls were made, much went wrong, and many are there.
func TestH4Long(t *testing.T) {
	const n = 1 << 16
	c := wilds(2)
	w := world(c)
	for i := range n {
		w.Marks = append(w.Marks, api.Mark{ID: i, Filter: 0, Call: api.CallAsk})
		w.Ledger.Holds = append(w.Ledger.Holds, api.Hold{ID: i, Kind: api.HoldFlight, Filter: -1})
		w.Queue = append(w.Queue, 2*n+i)
	}
	f := flight(c, 5, api.PhaseOut, 1, 0, 1)
	f.Faults = make([]api.Fault, n)
	stepIs(t, c, w, f, marked(w, 5, 1, api.CallAnswer), at(f, api.PhaseOut, 0), -1, api.OK)
	up := flight(c, 5, api.PhaseUp, 0, 0, 1)
	x := marked(w, 5, -1, api.CallUp)
	x.Ledger.Holds = append(x.Ledger.Holds, api.Hold{ID: 2 * n, Kind: api.HoldLease, Filter: -1})
	x.Queue = x.Queue[1:]
	stepIs(t, c, holding(w, 5, api.HoldLease, -1), up, x, says(up, api.PhaseOut, 1, 200, "yes"), 2*n, api.OK)
}
