package flat_test

import (
	"math/rand/v2"
	"slices"
	"sync"
	"testing"

	"sieveworks/api"
	"sieveworks/chain"
	"sieveworks/flat"
)

// room puts something behind a list that nobody may touch or look at; whole has it in the list.
func room[T any](l []T, behind ...T) (short, whole []T) {
	whole = slices.Concat(l, behind)
	return whole[:len(l)], whole
}

// roomyTable has filters that can all behind its lists; whole has these in its lists.
func roomyTable(t api.Table) (short, whole api.Table) {
	for i, l := range t.Can {
		short.Can[i], whole.Can[i] = room(l, true, true, true)
	}
	short.Next, whole.Next = room(t.Next, 0, 1, 2)
	return short, whole
}

// roomyConf has filters, ups and bads behind its lists that would count if they stood in them.
func roomyConf(c api.Conf) (short, whole api.Conf) {
	short, whole = c, c
	short.Sieves, whole.Sieves = room(c.Sieves, wild(7), wild(7))
	short.Ups, whole.Ups = room(c.Ups, api.Up{Path: "", Status: 299, Text: "behind"})
	var bads []api.Bad
	for n := range 16 {
		bads = append(bads, api.Bad{ID: n % 4, Filter: n / 4, Call: 1 + (n+n/4)%4, Do: api.DoPanic, Text: "behind"})
	}
	short.Bads, whole.Bads = room(c.Bads, bads...)
	return short, whole
}

func roomyWorld(w api.World) (short, whole api.World) {
	short, whole = w, w
	short.Ledger.Holds, whole.Ledger.Holds = room(w.Ledger.Holds, api.Hold{ID: 0, Kind: 2, Filter: -1}, api.Hold{ID: 1, Kind: 3}, api.Hold{ID: 2, Kind: 1, Filter: -1})
	short.Gates, whole.Gates = room(w.Gates, 41, 42)
	short.Failed, whole.Failed = room(w.Failed, 51, 52)
	short.Queue, whole.Queue = room(w.Queue, 0, 1, 2)
	short.Marks, whole.Marks = room(w.Marks, api.Mark{ID: 61, Filter: 62, Call: 63}, api.Mark{ID: 64})
	return short, whole
}

func roomyMsg(m api.Msg) (short, whole api.Msg) {
	short, whole = m, m
	short.Heads, whole.Heads = room(m.Heads, api.Head{Key: "k", Text: "w"}, api.Head{Key: "behind", Text: "it"})
	short.Body, whole.Body = room(m.Body, []byte("behind")...)
	return short, whole
}

func roomyFlight(f api.Flight) (short, whole api.Flight) {
	short, whole = f, f
	short.Ask, whole.Ask = roomyMsg(f.Ask)
	short.Msg, whole.Msg = roomyMsg(f.Msg)
	short.Passed, whole.Passed = room(f.Passed, 0, 1, 2)
	short.Again, whole.Again = room(f.Again, 3, 4, 5)
	short.Faults, whole.Faults = room(f.Faults, api.Fault{Kind: 71, Filter: 72}, api.Fault{Text: "behind"})
	return short, whole
}

// fill writes over a list, and over its spare room.
func fill[T any](l []T, x T) {
	l = l[:cap(l)]
	for i := range l {
		l[i] = x
	}
}

// flip has each entry of a list, and of its spare room, be what it was not.
func flip(l []bool) {
	l = l[:cap(l)]
	for i := range l {
		l[i] = !l[i]
	}
}

// turn has each filter of the table can what it couldn't, and can't what it could.
func turn(t api.Table) {
	for _, l := range t.Can {
		flip(l)
	}
	fill(t.Next, -9)
}

func scribbleConf(c api.Conf) {
	fill(c.Sieves, api.Sieve{Kind: -9})
	fill(c.Ups, api.Up{Path: "?", Status: -9})
	fill(c.Bads, api.Bad{ID: -9})
}

func scribbleWorld(w api.World) {
	fill(w.Ledger.Holds, api.Hold{ID: -9, Kind: -9, Filter: -9})
	fill(w.Gates, -9)
	fill(w.Failed, -9)
	fill(w.Queue, -9)
	fill(w.Marks, api.Mark{ID: -9, Filter: -9, Call: -9})
}

func scribbleFlight(f api.Flight) {
	fill(f.Ask.Heads, api.Head{Key: "?", Text: "?"})
	fill(f.Ask.Body, '?')
	fill(f.Msg.Heads, api.Head{Key: "?", Text: "?"})
	fill(f.Msg.Body, '?')
	fill(f.Passed, -9)
	fill(f.Again, -9)
	fill(f.Faults, api.Fault{Kind: -9, Text: "?"})
}

func sameConf(a, b api.Conf) bool {
	return slices.Equal(a.Sieves, b.Sieves) && slices.Equal(a.Ups, b.Ups) && slices.Equal(a.Bads, b.Bads) &&
		a.Flights == b.Flights && a.Conns == b.Conns && a.Waits == b.Waits && a.Timers == b.Timers
}

// handed is all that is handed in, with spare room behind its lists.
type handed struct {
	t, tWhole api.Table
	c, cWhole api.Conf
	w, wWhole api.World
	f, fWhole api.Flight
}

func hand(t api.Table, c api.Conf, w api.World, f api.Flight) handed {
	var h handed
	h.t, h.tWhole = roomyTable(t)
	h.c, h.cWhole = roomyConf(c)
	h.w, h.wWhole = roomyWorld(w)
	h.f, h.fWhole = roomyFlight(f)
	return h
}

// same tells whether all that was handed in is as it was, the spare room too.
func (h handed) same(o handed) bool {
	return sameTable(h.tWhole, o.tWhole) && sameConf(h.cWhole, o.cWhole) && sameWorld(h.wWhole, o.wWhole) && sameFlight(h.fWhole, o.fWhole)
}

func (h handed) scribble() {
	turn(h.t)
	scribbleConf(h.c)
	scribbleWorld(h.w)
	scribbleFlight(h.f)
}

// TestI1LayOnlyReads: the conf is as it was, nothing behind its lists is looked at, and neither it nor the table changes the other.
func TestI1LayOnlyReads(t *testing.T) {
	for n := range 3 {
		eachBits(n, func(bits []int) {
			c := wilds(bits...)
			in, whole := roomyConf(c)
			_, wantWhole := roomyConf(c)
			got := flat.Lay(in)
			if !sameTable(got, table(bits...)) || !sameConf(whole, wantWhole) {
				t.Errorf("of %v: %+v comes, and %+v is left", bits, got, whole)
			}
			scribbleConf(in)
			if !sameTable(got, table(bits...)) {
				t.Errorf("of %v: %+v is left", bits, got)
			}
			in, whole = roomyConf(c)
			turn(flat.Lay(in))
			if !sameConf(whole, wantWhole) {
				t.Errorf("of %v: %+v is left", bits, whole)
			}
		})
	}
}

// TestI1LaySharesNothing: each list of a table, its spare room too, is its own, and so are two tables of one conf.
func TestI1LaySharesNothing(t *testing.T) {
	for n := range 3 {
		eachBits(n, func(bits []int) {
			c, want := wilds(bits...), table(bits...)
			for i := range 4 {
				got, other := flat.Lay(c), flat.Lay(c)
				if i < 3 {
					flip(got.Can[i])
					got.Can[i] = want.Can[i]
				} else {
					fill(got.Next, -9)
					got.Next = want.Next
				}
				if !sameTable(got, want) || !sameTable(other, want) {
					t.Errorf("of %v: %+v and %+v are left", bits, got, other)
				}
			}
		})
	}
}

// TestI1ByOnlyReads: the table is as it was, and nothing behind its lists is looked at.
func TestI1ByOnlyReads(t *testing.T) {
	for n := range 3 {
		eachBits(n, func(bits []int) {
			in, whole := roomyTable(table(bits...))
			_, wantWhole := roomyTable(table(bits...))
			byIs(t, in, bits...)
			if !sameTable(whole, wantWhole) {
				t.Errorf("of %v: %+v is left", bits, whole)
			}
		})
	}
}

// TestI1ByIsOfThen: what By answers tells of the table as it was, whatever becomes of that; and each answer of its own table.
func TestI1ByIsOfThen(t *testing.T) {
	for n := range 3 {
		eachBits(n, func(bits []int) {
			in, _ := roomyTable(table(bits...))
			can := flat.By(in)
			other := flat.By(table(7, 7, 7))
			check := func() {
				t.Helper()
				for filter := -1; filter < n+3; filter++ {
					for call := api.CallAsk; call <= api.CallClose; call++ {
						want := filter >= 0 && filter < n && bits[filter]>>(call-1)&1 == 1
						if can(filter, call) != want || other(filter, call) != (filter >= 0 && filter < 3) {
							t.Errorf("of %v: filter %d, call %d: %v comes, not %v", bits, filter, call, !want, want)
						}
					}
				}
			}
			check()
			turn(in)
			check()
			in.Can[0], in.Can[1], in.Can[2], in.Next = nil, []bool{true}, []bool{true, true, true}, nil
			check()
		})
	}
}

// TestI1StepOnlyReads: at each step of asks all that is handed in is as it was; nothing behind the lists is looked at; and neither answers nor what was handed in change each other.
func TestI1StepOnlyReads(t *testing.T) {
	r := rand.New(rand.NewPCG(9, 2))
	for range 200 {
		play(t, r, func(tab api.Table, c api.Conf, w api.World, f api.Flight) {
			wantW, wantF, wantNext, wantErr := chain.Step(c, w, f)
			in := hand(tab, c, w, f)
			x, y, next, err := flat.Step(in.t, in.c, in.w, in.f)
			if next != wantNext || err != wantErr || !sameWorld(x, wantW) || !sameFlight(y, wantF) {
				t.Fatalf("with spare room: %+v\n%+v, %d, %v comes, not %+v\n%+v, %d, %v", x, y, next, err, wantW, wantF, wantNext, wantErr)
			}
			if !in.same(hand(tab, c, w, f)) {
				t.Fatalf("%+v is changed", in)
			}
			in.scribble()
			if !sameWorld(x, wantW) || !sameFlight(y, wantF) {
				t.Fatalf("%+v\n%+v is left of the answer, not %+v\n%+v", x, y, wantW, wantF)
			}
			in = hand(tab, c, w, f)
			x, y, _, _ = flat.Step(in.t, in.c, in.w, in.f)
			scribbleWorld(x)
			if !sameFlight(y, wantF) {
				t.Fatalf("the ask shares something with the world: %+v", y)
			}
			scribbleFlight(y)
			if !in.same(hand(tab, c, w, f)) {
				t.Fatalf("%+v is changed by who was answered", in)
			}
		})
	}
}

// TestI1NothingIsKept: what is changed between calls is looked at anew.
func TestI1NothingIsKept(t *testing.T) {
	c := wilds(1, 2)
	for range 3 {
		layIs(t, c, table(1, 2))
		c.Sieves[0] = wild(6)
		layIs(t, c, table(6, 2))
		c.Sieves[0] = wild(1)
	}
	tab := flat.Lay(c)
	for range 3 {
		byIs(t, tab, 1, 2)
		tab.Can[2][0] = true
		byIs(t, tab, 5, 2)
		tab.Can[2][0] = false
	}
	w, f := world(c, 5), flight(c, api.PhaseIn, 0)
	for range 3 {
		isTheSame(t, c, w, f)
		if _, h, _, _ := flat.Step(tab, c, w, f); h.Phase != api.PhaseUp {
			t.Errorf("%+v comes", h)
		}
		tab.Can[0][1] = true
		if _, h, _, _ := flat.Step(tab, c, w, f); h.Phase != api.PhaseIn || h.At != 1 {
			t.Errorf("%+v comes", h)
		}
		tab.Can[0][1] = false
	}
}

// TestI1AtOnce: calls may share what they are handed, and what By answers, for they only read it.
func TestI1AtOnce(t *testing.T) {
	c := wilds(7, 3, 5)
	c.Bads = []api.Bad{{ID: 5, Filter: 1, Call: api.CallAsk, Do: api.DoPanic, Text: "oh"}}
	w := world(c, 5)
	for _, f := range []api.Flight{flight(c, api.PhaseIn, 1, 0), flight(c, api.PhaseUp, 0, 0, 1, 2), flight(c, api.PhaseOut, 1, 0, 1, 2), flight(c, api.PhaseClose, 2, 0, 1, 2), flight(c, api.PhaseGive, 0), flight(c, api.PhaseDone, 0)} {
		in := hand(flat.Lay(c), c, w, f)
		can := flat.By(in.t)
		wantW, wantF, wantNext, wantErr := chain.Step(c, w, f)
		var all sync.WaitGroup
		for range 20 {
			all.Go(func() {
				x, y, next, err := flat.Step(in.t, in.c, in.w, in.f)
				if next != wantNext || err != wantErr || !sameWorld(x, wantW) || !sameFlight(y, wantF) {
					t.Errorf("%+v\n%+v, %d, %v comes", x, y, next, err)
				}
				scribbleWorld(x)
				scribbleFlight(y)
				turn(flat.Lay(in.c))
				if !can(1, api.CallAnswer) || can(1, api.CallClose) || flat.By(in.t)(3, api.CallAsk) {
					t.Errorf("%+v is told otherwise", in.t)
				}
			})
		}
		all.Wait()
		if !in.same(hand(flat.Lay(c), c, w, f)) {
			t.Errorf("%+v is left", in)
		}
	}
}
