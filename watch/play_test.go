package watch_test

import (
	"math/rand/v2"
	"testing"

	"sieveworks/api"
	"sieveworks/front"
	"sieveworks/server"
	"sieveworks/watch"
)

// anyConf is a right one, with bads that are likely to be met.
func anyConf(r *rand.Rand) api.Conf {
	c := api.Conf{Flights: r.IntN(api.MaxCount + 1), Conns: 1 + r.IntN(2), Waits: r.IntN(api.MaxCount), Timers: r.IntN(api.MaxCount + 1)}
	for range r.IntN(api.MaxSieves + 1) {
		s := api.Sieve{Kind: 1 + r.IntN(api.SieveWild), N: r.IntN(5), Key: "k", Text: []string{"v", "w"}[r.IntN(2)]}
		if s.Kind == api.SieveWild {
			s.N = r.IntN(8)
		}
		c.Sieves = append(c.Sieves, s)
	}
	for range r.IntN(api.MaxUps + 1) {
		c.Ups = append(c.Ups, api.Up{Path: []string{"/a", "/b", ""}[r.IntN(3)], Status: 100 + r.IntN(500), Text: "up", Fails: r.IntN(5)})
	}
	for range r.IntN(api.MaxBads + 1) {
		c.Bads = append(c.Bads, api.Bad{ID: r.IntN(6), Filter: r.IntN(len(c.Sieves)+1) - 1, Call: 1 + r.IntN(4), Do: r.IntN(7), Text: "oh"})
	}
	return c
}

// anyStep is one of every kind, now and then a wrong one.
func anyStep(r *rand.Rand, asked int) api.Step {
	switch n := r.IntN(30); {
	case n < 3:
		m := api.Msg{Path: []string{"/a", "/b/c", "/", "x"}[r.IntN(4)], Body: []byte("four")[:r.IntN(5)]}
		if r.IntN(2) == 0 {
			m.Heads = []api.Head{{Key: "k", Text: []string{"v", "w"}[r.IntN(2)]}}
		}
		return api.Step{Kind: api.StepAsk, Msg: m}
	case n == 3:
		return api.Step{Kind: api.StepTick}
	case n == 4:
		return api.Step{Kind: r.IntN(8) - 2, N: r.IntN(5) - 2, Msg: api.Msg{Path: "/a"}}
	}
	return api.Step{Kind: api.StepGo, N: r.IntN(asked+2) - 1}
}

// plays has many servers play, and calls look behind each step, and when all is done.
func plays(t *testing.T, seed uint64, look func(s api.Server)) {
	t.Helper()
	r := rand.New(rand.NewPCG(12, seed))
	for range 200 {
		s, _, err := front.Play(anyConf(r), nil, false)
		if err != api.OK {
			t.Fatalf("%v comes", err)
		}
		look(s)
		for range 100 {
			s, _ = server.Do(s, anyStep(r, len(s.Flights)), r.IntN(2) == 0)
			look(s)
		}
		s, _ = front.Finish(s, r.IntN(2) == 0)
		look(s)
	}
}

// TestL1RightOfPlay: at each step all is right, at every phase, whoever waits, and whatever is held.
func TestL1RightOfPlay(t *testing.T) {
	seen := map[string]int{}
	plays(t, 2, func(s api.Server) {
		if !watch.Right(s) {
			t.Fatalf("%+v is not right", s)
		}
		for id, f := range s.Flights {
			seen["phase"+string(rune('0'+f.Phase))]++
			if f.Waits {
				seen["waits"]++
			}
			h := watch.Held(s, id)
			if h[api.HoldLease] == 1 {
				seen["lease"]++
			}
			if h[api.HoldTimer] > 1 {
				seen["timers"]++
			}
			if f.Phase == api.PhaseDone && f.Fatal {
				seen["fatal"]++
			}
		}
		if len(s.World.Queue) > 1 {
			seen["many wait"]++
		}
	})
	for _, x := range []string{"phase1", "phase2", "phase3", "phase4", "phase5", "phase6", "waits", "many wait", "lease", "timers", "fatal"} {
		if seen[x] == 0 {
			t.Errorf("%s never came", x)
		}
	}
}

// TestL2OfPlay: each ask's marks go in, and back out, at each step.
func TestL2OfPlay(t *testing.T) {
	seen := map[int]int{}
	plays(t, 3, func(s api.Server) {
		for id := range s.Flights {
			l := watch.Trace(s, id)
			if !watch.Onion(l) {
				t.Fatalf("%v of %+v is out of order", l, s)
			}
			for i, m := range l {
				seen[m.Call]++
				if i > 0 && m.Call == api.CallAsk && l[i-1].Call == api.CallAnswer {
					seen[-1]++ // done again
				}
			}
		}
	})
	for _, x := range []int{-1, api.CallAsk, api.CallAnswer, api.CallClose, api.CallGive, api.CallUp} {
		if seen[x] == 0 {
			t.Errorf("%d never came", x)
		}
	}
}
