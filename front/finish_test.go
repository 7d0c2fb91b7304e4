package front_test

import (
	"math"
	"math/rand/v2"
	"slices"
	"testing"

	"sieveworks/api"
	"sieveworks/front"
	"sieveworks/msg"
	"sieveworks/server"
)

// TestK1Done: all asks are, or one is not, at whatever place, in whatever other phase.
func TestK1Done(t *testing.T) {
	for n := range 6 {
		s := api.Server{Flights: make([]api.Flight, n)}
		for i := range s.Flights {
			s.Flights[i] = api.Flight{ID: i, Phase: api.PhaseDone}
		}
		if !front.Done(s) {
			t.Errorf("%d that are done are not", n)
		}
		for i := range n {
			for _, phase := range []int{api.PhaseIn, api.PhaseUp, api.PhaseOut, api.PhaseClose, api.PhaseGive, 0, 7, -6, 6 + 1<<32, math.MinInt, math.MaxInt} {
				x := server.Own(s)
				x.Flights[i].Phase, x.Flights[i].Msg = phase, msg.Answer(200, "yes")
				if front.Done(x) {
					t.Errorf("%d of %d, at phase %d, is done", i, n, phase)
				}
			}
		}
	}
	if !front.Done(api.Server{Flights: []api.Flight{}}) || !front.Done(played(t, conf(), true)) {
		t.Error("a server without asks is not done")
	}
}

// TestK1DoneOnTheWay: an ask is done behind its last step, not ahead of it; one that was too many is at once.
func TestK1DoneOnTheWay(t *testing.T) {
	l := []api.Step{asks("/a"), goes(0), goes(0), goes(0)}
	for n := range l {
		if s := played(t, conf(), n%2 == 0, l[:n]...); front.Done(s) != (n == 0) {
			t.Errorf("%d steps: %v comes", n, front.Done(s))
		}
	}
	if !front.Done(played(t, conf(), false, l...)) || !front.Done(played(t, api.Conf{Conns: 1}, false, asks("/a"), asks("/b"))) {
		t.Error("who is answered is not done")
	}
}

// finishes holds Finish, by a table and without one, against how many times it must be, which calls are made then, in turn, and each ask's status.
func finishes(t *testing.T, s api.Server, rounds int, marks []api.Mark, status ...int) {
	t.Helper()
	for _, table := range []bool{false, true} {
		x, n := front.Finish(s, table)
		if n != rounds || !front.Done(x) || len(x.World.Ledger.Holds)+len(x.World.Queue) != 0 {
			t.Errorf("%d times: %+v comes, not %d times", n, x, rounds)
		}
		if made := x.World.Marks[len(s.World.Marks):]; !slices.Equal(made, marks) {
			t.Errorf("%v are made, not %v", made, marks)
		}
		var got []int
		for _, m := range front.Answers(x) {
			got = append(got, m.Status)
		}
		if !slices.Equal(got, status) {
			t.Errorf("%v are answered, not %v", got, status)
		}
	}
}

// The marks of calls that are no filter's, and of those of filter 0.
func up(id int) api.Mark             { return api.Mark{ID: id, Filter: -1, Call: api.CallUp} }
func give(id int) api.Mark           { return api.Mark{ID: id, Filter: -1, Call: api.CallGive} }
func first(id, call int) api.Mark    { return api.Mark{ID: id, Filter: 0, Call: call} }
func marks(l ...api.Mark) []api.Mark { return l }

// bad has ask 0's calls do something else.
func bad(filter, call, do int) []api.Bad {
	return []api.Bad{{ID: 0, Filter: filter, Call: call, Do: do, Text: "oh"}}
}

// TestK1FinishDone: not once, and the server is as it was.
func TestK1FinishDone(t *testing.T) {
	refused := played(t, api.Conf{Conns: 1}, false, asks("/a"), asks("/b"))
	answered := played(t, conf(), false, asks("/a"), goes(0), goes(0), goes(0))
	for _, s := range []api.Server{{}, {Flights: []api.Flight{}}, played(t, conf(), false), refused, answered} {
		for _, table := range []bool{false, true} {
			if x, n := front.Finish(s, table); n != 0 || told(x) != told(s) {
				t.Errorf("%d times: %+v comes of %+v", n, x, s)
			}
		}
	}
}

// TestK1FinishOne: as many times as the ask has steps left: it takes a lease, somebody is asked, it gives back.
func TestK1FinishOne(t *testing.T) {
	l := []api.Step{asks("/a"), goes(0), goes(0), goes(0)}
	finishes(t, played(t, conf(), false, l[:1]...), 3, marks(up(0), give(0)), 200)
	finishes(t, played(t, conf(), false, l[:2]...), 2, marks(up(0), give(0)), 200)
	finishes(t, played(t, conf(), false, l[:3]...), 1, marks(give(0)), 200)
	finishes(t, played(t, conf(), false, l...), 0, nil, 200)
}

// TestK1FinishInTurn: in each round each ask has a step, the first one first, whoever came first so far.
func TestK1FinishInTurn(t *testing.T) {
	c := conf(wild(7))
	c.Conns = 4
	var all []api.Mark
	for call := range 5 {
		for id := range 3 {
			m := []api.Mark{first(id, api.CallAsk), up(id), first(id, api.CallAnswer), first(id, api.CallClose), first(id, api.CallGive)}
			all = append(all, m[call])
		}
	}
	all = append(all, give(0), give(1), give(2))
	finishes(t, played(t, c, false, asks("/a"), asks("/b"), asks("/c")), 7, all, 200, 200, 200)
	finishes(t, played(t, c, false, asks("/a"), asks("/b"), goes(1), goes(1), goes(1)), 7,
		marks(first(0, 1), first(1, 2), first(1, 3), up(0), first(1, 4), first(0, 2), give(1), first(0, 3), first(0, 4), give(0)), 200, 200)
}

// TestK1FinishWaits: who waits goes on in the round in which it need not any more, if its turn is still to come; else in the next one.
func TestK1FinishWaits(t *testing.T) {
	finishes(t, played(t, conf(), false, asks("/a"), asks("/b")), 3, marks(up(0), up(1), give(0), give(1)), 200, 200)
	finishes(t, played(t, conf(), true, asks("/a"), asks("/b"), goes(1), goes(0)), 3, marks(up(1), up(0), give(1), give(0)), 200, 200)
	finishes(t, played(t, conf(), true, asks("/a"), asks("/b"), asks("/c"), goes(2), goes(1), goes(0)), 4, marks(up(2), up(1), give(2), up(0), give(1), give(0)), 200, 200, 200)
}

// TestK1FinishRefused: those who come out ahead of others do so, be it that too many wait, or that too many are there.
func TestK1FinishRefused(t *testing.T) {
	c := conf()
	c.Waits, c.Flights = 0, 2
	finishes(t, played(t, c, false, asks("/a"), asks("/b"), asks("/c")), 3, marks(up(1), up(0), give(1), give(0)), 200, 504, 503)
}

// TestK1FinishAgain: so many times as filters let the ask be done again, three steps each.
func TestK1FinishAgain(t *testing.T) {
	once := marks(up(0), first(0, api.CallAnswer))
	for n := range api.MaxCount + 1 {
		c := conf(retry(n))
		c.Ups[0].Status = 500
		finishes(t, played(t, c, n%2 == 0, asks("/a")), 3*n+4, append(slices.Repeat(once, n+1), give(0)), 500)
		c.Ups[0].Status, c.Ups[0].Fails = 200, n
		finishes(t, played(t, c, n%2 == 0, asks("/a")), 3*n+4, append(slices.Repeat(once, n+1), give(0)), 200)
	}
	c := conf(wild(2))
	c.Bads = bad(0, api.CallAnswer, api.DoAgain)
	finishes(t, played(t, c, false, asks("/a")), 3*api.MaxCount+4, append(slices.Repeat(once, api.MaxCount+1), give(0)), 200)
}

// TestK1FinishFails: an ask that fails is answered, and so are the others; what is held is given back.
func TestK1FinishFails(t *testing.T) {
	c := conf(wild(1))
	for _, do := range []int{api.DoFail, api.DoPanic, api.DoWrap, api.DoFatal} {
		status := 500
		if do == api.DoFail {
			status = 400
		}
		c.Bads = bad(0, api.CallAsk, do)
		all := marks(first(0, 1), first(1, 1), give(0), up(1), first(1, 4), give(1))
		finishes(t, played(t, c, do%2 == 0, asks("/a"), asks("/b")), 5, all, status, 200)
		c.Bads = bad(-1, api.CallGive, do)
		all = marks(first(0, 1), up(0), first(0, 4), give(0))
		finishes(t, played(t, c, do%2 == 0, asks("/a")), 5, all, 200)
		if x, _ := front.Finish(played(t, c, false, asks("/a")), true); len(x.Flights[0].Faults) != 1 || x.Flights[0].Faults[0].Kind != api.FaultRelease {
			t.Errorf("%+v comes", x.Flights[0])
		}
	}
	c = conf()
	c.Ups[0].Fails = 1
	finishes(t, played(t, c, false, asks("/a"), asks("/b")), 3, marks(up(0), up(1), give(0), give(1)), 502, 200)
	c.Ups[0].Path = "/b"
	finishes(t, played(t, c, false, asks("/a")), 3, marks(up(0), give(0)), 404)
}

// TestK1FinishNever: an ask that waits for one that is not there, or is at no phase that there is; all others are done, and it stays as it was.
func TestK1FinishNever(t *testing.T) {
	waits := api.Flight{ID: 1, Phase: api.PhaseUp, Ask: api.Msg{Path: "/b"}, Waits: true}
	for _, f := range []api.Flight{waits, {ID: 1}, {ID: 1, Phase: 99}, {ID: 1, Phase: math.MinInt, Waits: true}, {ID: 1, Phase: math.MaxInt, At: math.MaxInt}} {
		s := played(t, conf(), false, asks("/a"), asks("/b"), asks("/c"), goes(0), goes(0))
		s.Flights[1], s.Flights[2].Phase = f, api.PhaseGive
		s.World.Queue = []int{1}
		s.World.Ledger.Holds = append(s.World.Ledger.Holds, api.Hold{ID: 9, Kind: api.HoldLease, Filter: -1})
		for _, table := range []bool{false, true} {
			x, n := front.Finish(s, table)
			if n != api.MaxRounds || front.Done(x) || told(x.Flights[1]) != told(f) || x.Flights[0].Phase != api.PhaseDone || x.Flights[2].Phase != api.PhaseDone || !slices.Equal(x.World.Marks, marks(up(0), give(0), give(2))) {
				t.Errorf("%d times: %+v comes", n, x)
			}
			if y, n := front.Finish(x, table); n != api.MaxRounds || told(y) != told(x) {
				t.Errorf("again %d times: %+v comes", n, y)
			}
		}
	}
}

// TestK1FinishMaxRounds: an ask that gives back as much as there are rounds is done in the last one; with one thing more it is not.
func TestK1FinishMaxRounds(t *testing.T) {
	for _, held := range []int{api.MaxRounds - 1, api.MaxRounds, api.MaxRounds + 1} {
		s := api.Server{Flights: []api.Flight{{Phase: api.PhaseGive}}}
		s.World.Ledger.Holds = slices.Repeat([]api.Hold{{Kind: api.HoldTimer}}, held)
		x, n := front.Finish(s, held%2 == 0)
		if left := len(x.World.Ledger.Holds); n != min(held, api.MaxRounds) || left != held-n || front.Done(x) != (left == 0) || len(x.World.Marks) != n {
			t.Errorf("%d are held: %d times, %d are left, %d calls are made", held, n, left, len(x.World.Marks))
		}
	}
}

// byWords goes through the chapter's words one by one: StepGo of each ask, also of those that can't go on.
func byWords(s api.Server, table bool) (api.Server, int) {
	n := 0
	for slices.ContainsFunc(s.Flights, func(f api.Flight) bool { return f.Phase != api.PhaseDone }) && n < api.MaxRounds {
		for id := range s.Flights {
			s, _ = server.Do(s, goes(id), table)
		}
		n++
	}
	return s, n
}

// TestK1FinishOfEvery holds played servers that are finished against the chapter's words: all are answered, and nothing is left.
func TestK1FinishOfEvery(t *testing.T) {
	r, most := rand.New(rand.NewPCG(11, 2)), 0
	for range 300 {
		s := played(t, anyConf(r), r.IntN(2) == 0, anySteps(r)...)
		want, rounds := byWords(s, r.IntN(2) == 0)
		for _, table := range []bool{false, true} {
			x, n := front.Finish(s, table)
			if n != rounds || told(x) != told(want) {
				t.Fatalf("%+v:\n%+v, %d times comes, not\n%+v, %d times", s, x, n, want, rounds)
			}
			if n >= api.MaxRounds || !front.Done(x) || len(x.World.Ledger.Holds)+len(x.World.Queue) != 0 {
				t.Fatalf("%+v, %d times comes of %+v", x, n, s)
			}
			for id, m := range front.Answers(x) {
				if m.Status == 0 || x.Flights[id].Waits || told(m) != told(x.Flights[id].Msg) {
					t.Fatalf("%d is answered by %+v: %+v", id, m, x)
				}
			}
		}
		most = max(most, rounds)
	}
	if most < 20 {
		t.Errorf("%d rounds are the most", most)
	}
}

// TestK1FinishOdd: asks that no steps made: each call ends, and does what the chapter's words do.
func TestK1FinishOdd(t *testing.T) {
	r := rand.New(rand.NewPCG(11, 3))
	odd := func() int { return []int{math.MinInt, -1, 0, 1, 2, 6, 9, math.MaxInt}[r.IntN(8)] }
	for range 30 {
		s := api.Server{Conf: anyConf(r)}
		s.World.Ledger.Holds = []api.Hold{{ID: odd(), Kind: odd(), Filter: odd()}, {ID: r.IntN(2), Kind: r.IntN(4), Filter: odd()}}
		s.World.Gates, s.World.Failed, s.World.Queue = []int{odd(), odd()}, []int{odd()}, []int{odd(), odd()}
		for range 1 + r.IntN(2) {
			s.Flights = append(s.Flights, api.Flight{ID: odd(), Phase: r.IntN(8), At: odd(), Passed: []int{odd(), odd()}, Again: []int{odd()}, Waits: r.IntN(4) == 0, Ask: api.Msg{Status: odd(), Path: "/a"}})
		}
		want, rounds := byWords(s, false)
		for _, table := range []bool{false, true} {
			if x, n := front.Finish(s, table); n != rounds || told(x) != told(want) {
				t.Fatalf("%+v:\n%+v, %d times comes, not\n%+v, %d times", s, x, n, want, rounds)
			}
		}
	}
}

// TestK1Answers: a place for each ask; what an ask that is not done has as Msg is not told.
func TestK1Answers(t *testing.T) {
	whole := api.Msg{Status: 200, Heads: []api.Head{{Key: "k", Text: "v"}, {Key: "m"}}, Body: []byte("yes")}
	for _, phase := range []int{api.PhaseIn, api.PhaseUp, api.PhaseOut, api.PhaseClose, api.PhaseGive, api.PhaseDone, 0, 7, -6, 6 + 1<<32, math.MinInt, math.MaxInt} {
		for _, m := range []api.Msg{{}, whole, msg.Answer(404, ""), {Status: -1, Path: "/a"}} {
			want := []api.Msg{msg.Answer(503, "overload"), {}, {}}
			if phase == api.PhaseDone {
				want[1] = m
			}
			s := api.Server{Flights: []api.Flight{{Phase: api.PhaseDone, Ask: whole, Msg: want[0]}, {Phase: phase, Ask: whole, Msg: m, Waits: true, Fatal: true}, {ID: 2, Phase: api.PhaseUp, Msg: whole}}}
			if got := front.Answers(s); told(got) != told(want) {
				t.Errorf("%+v comes of %+v, not %+v", got, s, want)
			}
		}
	}
	if len(front.Answers(api.Server{}))+len(front.Answers(played(t, conf(), false))) != 0 {
		t.Error("somebody is answered who did not ask")
	}
}

// TestK1AnswersOnTheWay: an ask's answer is told only when it holds nothing any more.
func TestK1AnswersOnTheWay(t *testing.T) {
	c := conf(api.Sieve{Kind: api.SieveMark, Key: "m", Text: "1"})
	l := []api.Step{asks("/a"), asks("/b"), goes(0), goes(0), goes(0), goes(0)}
	yes := api.Msg{Status: 200, Heads: []api.Head{{Key: "m", Text: "1"}}, Body: []byte("yes")}
	for n := range len(l) + 1 {
		want := make([]api.Msg, min(n, 2))
		if n == len(l) {
			want[0] = yes
		}
		if s := played(t, c, n%2 == 0, l[:n]...); told(front.Answers(s)) != told(want) {
			t.Errorf("%d steps: %+v comes of %+v", n, front.Answers(s), s)
		}
	}
}
