package chain_test

import (
	"math"
	"slices"
	"testing"

	"sieveworks/api"
	"sieveworks/msg"
)

// TestH3Lease: what was taken last is no lease: one is taken, nothing is called, and the ask is where it was.
func TestH3Lease(t *testing.T) {
	c := wilds(2)
	for _, id := range great() {
		f := flight(c, id, api.PhaseUp, 0, 0, 1)
		for _, w := range []api.World{world(c), world(c, id), holding(world(c, id), id, api.HoldTimer, 1), holding(holding(world(c, 6, id), 6, api.HoldTimer, 1), id, api.HoldTimer, 0), world(c, id, 6)} {
			stepIs(t, c, w, f, holding(w, id, api.HoldLease, -1), f, -1, api.OK)
		}
	}
	c.Conns, c.Waits = 2, 0
	f := flight(c, 5, api.PhaseUp, 0, 0, 1)
	w := holding(world(c, 6, 5), 6, api.HoldLease, -1)
	stepIs(t, c, w, f, holding(w, 5, api.HoldLease, -1), f, -1, api.OK)
}

// TestH3Waits: no lease is free, or somebody waits: the ask does, too, as long as so many may; nothing is called.
func TestH3Waits(t *testing.T) {
	for waits := 1; waits <= api.MaxCount; waits++ {
		for conns := 1; conns <= api.MaxCount; conns++ {
			c := wilds(1)
			c.Conns, c.Waits = conns, waits
			w := world(c, 5)
			for i := range conns {
				w = holding(w, 10+i, api.HoldLease, -1)
			}
			f := flight(c, 5, api.PhaseUp, 0, 0)
			for n := range waits {
				x, want := deepWorld(w), at(f, api.PhaseUp, 0)
				x.Queue, want.Waits = append(x.Queue, 5), true
				stepIs(t, c, w, f, x, want, -1, api.OK)
				w.Queue = append(w.Queue, 20+n)
			}
			want := faulty(says(f, api.PhaseOut, 0, 504, "no upstream"), api.Fault{Kind: api.FaultNoUp, Filter: -1})
			stepIs(t, c, w, f, marked(w, 5, -1, api.CallUp), want, -1, api.OK)
		}
	}
}

// TestH3NoUp: too many wait: the ask goes out with that, through all that it has passed, and has taken nothing.
func TestH3NoUp(t *testing.T) {
	for passed, want := range map[int][2]int{1: {api.PhaseOut, 0}, 0: {api.PhaseGive, 0}, 10: {api.PhaseClose, 0}, 13: {api.PhaseOut, 0}} {
		for _, queue := range [][]int{nil, {6}, {6, 7, 8}} {
			c := conf(sieves()[passed])
			c.Waits = len(queue)
			w := holding(world(c, 5, 9), 9, api.HoldLease, -1)
			w.Queue = queue
			f := flight(c, 5, api.PhaseUp, 0, 0)
			f.Faults = []api.Fault{{Kind: api.FaultUp, Filter: -1}}
			stepIs(t, c, w, f, marked(w, 5, -1, api.CallUp), faulty(says(f, want[0], want[1], 504, "no upstream"), api.Fault{Kind: api.FaultNoUp, Filter: -1}), -1, api.OK)
		}
	}
	c := conf()
	c.Waits = 0
	f := flight(c, 5, api.PhaseUp, 0)
	w := holding(world(c), 9, api.HoldLease, -1)
	stepIs(t, c, w, f, marked(w, 5, -1, api.CallUp), faulty(says(f, api.PhaseDone, 0, 504, "no upstream"), api.Fault{Kind: api.FaultNoUp, Filter: -1}), -1, api.OK)
}

// TestH3WaitsAlready: no server has such an ask: it is in the queue, or has a lease below what it took last, and doesn't Wait. All is as it was.
func TestH3WaitsAlready(t *testing.T) {
	c := wilds(1)
	f := flight(c, 5, api.PhaseUp, 0, 0)
	queued := world(c, 5)
	queued.Queue = []int{6, 5}
	for _, w := range []api.World{queued, holding(holding(world(c, 5), 5, api.HoldLease, -1), 5, api.HoldTimer, 0)} {
		stepIs(t, c, w, f, w, f, -1, api.ErrDone)
	}
}

// leased is a world in which 5 has the lease.
func leased(c api.Conf) api.World { return holding(world(c, 5), 5, api.HoldLease, -1) }

// TestH3Answer: somebody is asked, by an ask that has a lease, and the lease goes.
func TestH3Answer(t *testing.T) {
	c := wilds(2)
	for _, id := range great() {
		w := world(c, id)
		f := flight(c, id, api.PhaseUp, 0, 0, 1)
		stepIs(t, c, holding(w, id, api.HoldLease, -1), f, marked(w, id, -1, api.CallUp), says(f, api.PhaseOut, 1, 200, "yes"), -1, api.OK)
	}
	for _, u := range []api.Up{{Path: "/", Status: 100}, {Path: "/a", Status: 599, Text: "a\nb"}, {Path: "", Status: 200, Text: "40 bytes are the most"}} {
		c.Ups = []api.Up{u}
		f := flight(c, 5, api.PhaseUp, 0, 0, 1)
		stepIs(t, c, leased(c), f, marked(world(c, 5), 5, -1, api.CallUp), says(f, api.PhaseOut, 1, u.Status, u.Text), -1, api.OK)
	}
}

// TestH3Path: the first one whose Path the ask's begins with is asked; with none it is nowhere.
func TestH3Path(t *testing.T) {
	for _, x := range []struct {
		path string
		ups  []string
		want int
	}{
		{"/a", nil, -1}, {"/a", []string{"/b"}, -1}, {"/a", []string{"/ab", "/a/", "a", "/A", "//a", " /a", "/a\x00"}, -1}, {"/a", []string{"/a"}, 0},
		{"/a", []string{"/b", "/a", "/"}, 1}, {"/a", []string{"/", "/a"}, 0}, {"/a", []string{"/b", "", "/a"}, 1}, {"/a/b", []string{"/a/b/c", "/a/c", "/a/", "/a/b"}, 2},
		{"/ab", []string{"/abc", "/ac", "/a", "/ab"}, 2}, {"/", []string{"/a", "/"}, 1}, {"/", []string{"/a", ""}, 1}, {"/a", []string{"/a", "/a"}, 0},
	} {
		c := wilds(1)
		c.Ups = nil
		for i, path := range x.ups {
			c.Ups = append(c.Ups, api.Up{Path: path, Status: 300 + i, Text: "u"})
		}
		f := flight(c, 5, api.PhaseUp, 0, 0)
		f.Ask.Path = x.path
		want := says(f, api.PhaseOut, 0, 404, "nowhere")
		if x.want >= 0 {
			want = says(f, api.PhaseOut, 0, 300+x.want, "u")
		}
		stepIs(t, c, leased(c), f, marked(world(c, 5), 5, -1, api.CallUp), want, -1, api.OK)
	}
}

// TestH3Fails: who is asked fails while it has failed less often than it is to; how often others have is nothing to it.
func TestH3Fails(t *testing.T) {
	for fails := range api.MaxCount + 1 {
		for failed := range api.MaxCount + 2 {
			c := wilds(1)
			c.Ups = []api.Up{{Path: "/b", Status: 500, Fails: 4}, {Path: "/a", Status: 201, Text: "yes", Fails: fails}, {Path: "/", Status: 202, Fails: 4}}
			w := world(c, 5)
			w.Failed = []int{3, failed, 0}
			f := flight(c, 5, api.PhaseUp, 0, 0)
			x, want := marked(w, 5, -1, api.CallUp), says(f, api.PhaseOut, 0, 201, "yes")
			if failed < fails {
				x.Failed[1]++
				want = faulty(says(f, api.PhaseOut, 0, 502, "upstream"), api.Fault{Kind: api.FaultUp, Filter: -1})
			}
			stepIs(t, c, holding(w, 5, api.HoldLease, -1), f, x, want, -1, api.OK)
		}
	}
}

// TestH3FaultsComeLast: that it failed comes behind what went wrong ahead of it.
func TestH3FaultsComeLast(t *testing.T) {
	c := wilds(1)
	c.Ups[0].Fails = 1
	f := flight(c, 5, api.PhaseUp, 0, 0)
	f.Faults = []api.Fault{{Kind: api.FaultFail, Filter: 0, Call: 2, Text: "x"}}
	x := marked(world(c, 5), 5, -1, api.CallUp)
	x.Failed[0] = 1
	stepIs(t, c, leased(c), f, x, faulty(says(f, api.PhaseOut, 0, 502, "upstream"), api.Fault{Kind: api.FaultUp, Filter: -1}), -1, api.OK)
}

// TestH3Back: who waits longest has the lease then, and is told, whatever the ask goes out with.
func TestH3Back(t *testing.T) {
	for _, ups := range [][]api.Up{nil, {{Path: "/", Status: 200, Text: "yes"}}, {{Path: "/", Status: 200, Fails: 1}}} {
		for _, queue := range [][]int{nil, {6}, {9, 6, 7}, {math.MaxInt, 6}, {0}} {
			c := wilds(1)
			c.Ups = ups
			w := leased(c)
			w.Queue = queue
			f := flight(c, 5, api.PhaseUp, 0, 0)
			x, want, next := marked(world(c, 5), 5, -1, api.CallUp), says(f, api.PhaseOut, 0, 404, "nowhere"), -1
			if len(ups) > 0 && ups[0].Fails == 0 {
				want = says(f, api.PhaseOut, 0, 200, "yes")
			} else if len(ups) > 0 {
				want = faulty(says(f, api.PhaseOut, 0, 502, "upstream"), api.Fault{Kind: api.FaultUp, Filter: -1})
				x.Failed[0] = 1
			}
			if len(queue) > 0 {
				next = queue[0]
				x = holding(x, next, api.HoldLease, -1)
				x.Queue = queue[1:]
			}
			stepIs(t, c, w, f, x, want, next, api.OK)
		}
	}
}

// TestH3HoldsLeaseAlone: with nothing held but the lease the ask is done as soon as that is given, if no filter is left.
func TestH3HoldsLeaseAlone(t *testing.T) {
	c := conf(sieves()[0])
	f := flight(c, 5, api.PhaseUp, 0, 0)
	w := world(c, 6)
	stepIs(t, c, holding(w, 5, api.HoldLease, -1), f, marked(w, 5, -1, api.CallUp), says(f, api.PhaseDone, 0, 200, "yes"), -1, api.OK)
}

// TestH3NoBads: nobody's bad has a call of no filter do otherwise.
func TestH3NoBads(t *testing.T) {
	c := wilds(1)
	for _, do := range dos() {
		c.Bads = []api.Bad{{ID: 5, Filter: -1, Call: api.CallUp, Do: do, Text: "oh"}, {ID: 5, Filter: 0, Call: api.CallUp, Do: do}, {ID: 5, Filter: -1, Call: api.CallAsk, Do: do}}
		f := flight(c, 5, api.PhaseUp, 0, 0)
		w := world(c, 5)
		stepIs(t, c, w, f, leased(c), f, -1, api.OK)
		stepIs(t, c, leased(c), f, marked(w, 5, -1, api.CallUp), says(f, api.PhaseOut, 0, 200, "yes"), -1, api.OK)
	}
}

// TestH3AskStays: what filters have made of the ask is not lost in the answer.
func TestH3AskStays(t *testing.T) {
	c := conf(sieves()[0])
	f := flight(c, 5, api.PhaseUp, 0, 0)
	f.Ask = msg.Set(f.Ask, "k", "v")
	want := says(f, api.PhaseGive, 0, 200, "yes")
	stepIs(t, c, leased(c), f, marked(world(c, 5), 5, -1, api.CallUp), want, -1, api.OK)
	if !slices.Equal(want.Ask.Heads, []api.Head{{Key: "x", Text: "y"}, {Key: "k", Text: "v"}}) {
		t.Errorf("%v is asked", want.Ask)
	}
}
