package server_test

import (
	"math/rand/v2"
	"testing"

	"sieveworks/api"
	"sieveworks/caps"
	"sieveworks/chain"
	"sieveworks/flat"
	"sieveworks/ledger"
	"sieveworks/msg"
	"sieveworks/server"
)

// anyConf is a right one, with bads that are likely to be met.
func anyConf(r *rand.Rand) api.Conf {
	c := api.Conf{Flights: r.IntN(api.MaxCount + 1), Conns: 1 + r.IntN(2), Waits: r.IntN(3), Timers: r.IntN(api.MaxCount + 1)}
	all := sieves()
	for range r.IntN(api.MaxSieves + 1) {
		c.Sieves = append(c.Sieves, all[r.IntN(len(all))])
	}
	for range r.IntN(api.MaxUps + 1) {
		c.Ups = append(c.Ups, api.Up{Path: []string{"/a", "/b", "/", ""}[r.IntN(4)], Status: 100 + r.IntN(500), Text: "up", Fails: r.IntN(3)})
	}
	for range r.IntN(api.MaxBads + 1) {
		b := api.Bad{ID: r.IntN(6), Filter: r.IntN(max(len(c.Sieves), 1)), Call: 1 + r.IntN(4), Do: r.IntN(7), Text: "oh"}
		if b.Call == api.CallGive && r.IntN(2) == 0 {
			b.Filter = -1
		}
		c.Bads = append(c.Bads, b)
	}
	return c
}

// anyStep is one of every kind, now and then a wrong one.
func anyStep(r *rand.Rand, asked int) api.Step {
	switch n := r.IntN(40); {
	case n < 3:
		m := api.Msg{Path: []string{"/a", "/b/c", "/", "x"}[r.IntN(4)], Body: []byte("four")[:r.IntN(5)]}
		if r.IntN(2) == 0 {
			m.Heads = []api.Head{{Key: "k", Text: []string{"v", "w"}[r.IntN(2)]}}
		}
		if r.IntN(8) == 0 {
			m = msg.Answer(200, "yes")
		}
		return comes(m)
	case n == 3:
		return ticks()
	case n == 4:
		return api.Step{Kind: r.IntN(8) - 2, N: r.IntN(5) - 2, Msg: api.Msg{Path: "/a"}}
	}
	return goes(r.IntN(asked+2) - 1)
}

// play has a server take steps, and calls do ahead of each; then all asks go on until they are done.
func play(t *testing.T, r *rand.Rand, do func(s api.Server, step api.Step)) {
	t.Helper()
	s := fresh(t, anyConf(r))
	take := func(step api.Step) {
		do(s, step)
		s, _ = server.Do(s, step, r.IntN(2) == 0)
		if t.Failed() { // one wrong step is enough to tell
			t.FailNow()
		}
	}
	for range 120 {
		take(anyStep(r, len(s.Flights)))
	}
	for n, left := 0, true; left; n++ {
		if n > api.MaxRounds {
			t.Fatalf("%+v is not done", s)
		}
		left = false
		for id := range s.Flights {
			if s.Flights[id].Phase != api.PhaseDone {
				left = true
				take(goes(id))
			}
		}
	}
	for id, f := range s.Flights {
		if f.ID != id || f.Msg.Status == 0 || f.Waits {
			t.Errorf("%+v is done", f)
		}
	}
	if len(s.World.Ledger.Holds) != 0 || len(s.World.Queue) != 0 {
		t.Errorf("%+v is left", s.World)
	}
}

// said goes through the chapter's words one by one: what Do must answer, of a server that it may change.
func said(s api.Server, step api.Step, table bool) (api.Server, api.Errno) {
	switch step.Kind {
	case 1:
		if msg.Wrong(step.Msg) != api.OK || step.Msg.Status != 0 {
			return s, api.ErrForm
		}
		f := api.Flight{ID: len(s.Flights), Ask: step.Msg}
		if ledger.Count(s.World.Ledger, api.HoldFlight) >= s.Conf.Flights {
			s.Flights = append(s.Flights, refused(f.ID, step.Msg, len(s.Conf.Sieves)))
			return s, api.OK
		}
		s.World.Ledger.Holds = append(s.World.Ledger.Holds, api.Hold{ID: f.ID, Kind: api.HoldFlight, Filter: -1})
		s.Flights = append(s.Flights, chain.Start(s.Conf, s.World, f, chain.Asked(s.Conf)))
		return s, api.OK
	case 2:
		if step.N < 0 || step.N >= len(s.Flights) {
			return s, api.ErrNone
		}
		w, f, next, err := chain.Step(s.Conf, s.World, s.Flights[step.N])
		if table {
			w, f, next, err = flat.Step(flat.Lay(s.Conf), s.Conf, s.World, s.Flights[step.N])
		}
		s.World, s.Flights[step.N] = w, f
		if next >= 0 {
			s.Flights[next].Waits = false
		}
		return s, err
	case 3:
		s.World.Gates = make([]int, len(s.Conf.Sieves))
		return s, api.OK
	}
	return s, api.ErrKind
}

// TestJ1OfEvery holds steps of many servers against the chapter's words; all that may come does, and all asks are answered at last.
func TestJ1OfEvery(t *testing.T) {
	r, seen := rand.New(rand.NewPCG(10, 1)), map[string]int{}
	for range 500 {
		play(t, r, func(s api.Server, step api.Step) {
			if err, _ := caps.Wrong(s.Conf); err != api.OK {
				t.Fatalf("%v is wrong with %+v", err, s.Conf)
			}
			for _, table := range tables() {
				want, wantErr := said(server.Own(s), step, table)
				got, err := server.Do(s, step, table)
				if err != wantErr || !same(got, want) || err != api.OK && !same(got, s) {
					t.Errorf("%+v of\n%+v:\n%+v, %v comes, not\n%+v, %v", step, s, got, err, want, wantErr)
				}
				tell(seen, s, step, got, err)
			}
		})
	}
	for _, x := range []string{"errno0", "errno1", "errno2", "errno6", "errno9", "errno:", "refused", "starts", "waits", "need not wait", "opens", "answered", "fatal"} {
		if seen[x] == 0 {
			t.Errorf("%s never came", x)
		}
	}
}

// tell counts by name what came, so that nothing is left untried.
func tell(seen map[string]int, s api.Server, step api.Step, got api.Server, err api.Errno) {
	seen["errno"+string(rune('0'+err))]++
	if len(got.Flights) > len(s.Flights) && last(got).Phase == api.PhaseDone {
		seen["refused"]++
	} else if len(got.Flights) > len(s.Flights) {
		seen["starts"]++
	}
	for i, f := range s.Flights {
		g := got.Flights[i]
		switch {
		case g.Waits && !f.Waits:
			seen["waits"]++
		case f.Waits && !g.Waits:
			seen["need not wait"]++
		case g.Phase == api.PhaseDone && f.Phase != api.PhaseDone:
			seen["answered"]++
		case g.Fatal && !f.Fatal:
			seen["fatal"]++
		}
	}
	for i, n := range s.World.Gates {
		if n > got.World.Gates[i] {
			seen["opens"]++
		}
	}
}

// TestJ1ByTable: by a table and without one, in any turn, it comes to the same.
func TestJ1ByTable(t *testing.T) {
	r := rand.New(rand.NewPCG(10, 3))
	for range 200 {
		a := fresh(t, anyConf(r))
		b, c := a, a
		for range 150 {
			step := anyStep(r, len(a.Flights))
			var errs [3]api.Errno
			a, errs[0] = server.Do(a, step, false)
			b, errs[1] = server.Do(b, step, true)
			c, errs[2] = server.Do(c, step, r.IntN(2) == 0)
			if !same(a, b) || !same(a, c) || errs[0] != errs[1] || errs[0] != errs[2] {
				t.Fatalf("%+v: %+v,\n%+v and\n%+v, %v come", step, a, b, c, errs)
			}
		}
	}
}

// TestJ1Long: many asks have come, most of them too many.
func TestJ1Long(t *testing.T) {
	const n = 1 << 11
	s := fresh(t, conf(wild(7)))
	for id := range n {
		var err api.Errno
		if s, err = server.Do(s, asks("/a"), id%2 == 0); err != api.OK || last(s).ID != id || (last(s).Phase == api.PhaseDone) != (id >= 4) {
			t.Fatalf("%d: %+v, %v comes", id, last(s), err)
		}
	}
	doIs(t, s, goes(n-1), s, api.ErrDone)
	doIs(t, s, goes(n), s, api.ErrNone)
	if x, err := server.Do(s, goes(3), true); err != api.OK || x.Flights[3].Phase != api.PhaseUp || len(x.Flights) != n {
		t.Errorf("%+v, %v comes", x.Flights[3], err)
	}
}
