package watch_test

import (
	"fmt"
	"math"
	"slices"
	"testing"

	"sieveworks/api"
	"sieveworks/watch"
)

// great are numbers that are none of a kind, a call, a filter or an ask, some of which would be, if they were cut short.
func great() []int {
	return []int{math.MinInt, math.MinInt + 1, -1<<32 + 1, -1 << 32, -256, 256, 257, 258, 259, 1 << 16, 1<<16 + 1, 1 << 31, 1 << 32, 1<<32 + 1, 1<<32 + 2, 1<<32 + 3, math.MaxInt - 1, math.MaxInt}
}

func mark(id, filter, call int) api.Mark { return api.Mark{ID: id, Filter: filter, Call: call} }

func hold(id, kind, filter int) api.Hold { return api.Hold{ID: id, Kind: kind, Filter: filter} }

// marked is a server with these marks, and with nothing else.
func marked(l ...api.Mark) api.Server { return api.Server{World: api.World{Marks: l}} }

// holding is a server with these holds, and with nothing else.
func holding(l ...api.Hold) api.Server {
	return api.Server{World: api.World{Ledger: api.Ledger{Holds: l}}}
}

func traceIs(t *testing.T, s api.Server, id int, want ...api.Mark) {
	t.Helper()
	if got := watch.Trace(s, id); !slices.Equal(got, want) {
		t.Errorf("%d of %v: %v comes, not %v", id, s.World.Marks, got, want)
	}
}

func heldIs(t *testing.T, s api.Server, id int, want [4]int) {
	t.Helper()
	if got := watch.Held(s, id); got != want {
		t.Errorf("%d of %v: %v comes, not %v", id, s.World.Ledger.Holds, got, want)
	}
}

func TestL1TraceNone(t *testing.T) {
	for _, s := range []api.Server{{}, marked([]api.Mark{}...), marked(mark(0, 0, 1), mark(2, 1, 1)), {Flights: make([]api.Flight, 3)}} {
		for _, id := range append(great(), -1, 1, 3) {
			traceIs(t, s, id)
		}
	}
}

// TestL1Trace: an ask's marks come in turn, each as often as it stands there, whatever other asks' marks lie between them.
func TestL1Trace(t *testing.T) {
	s := marked(mark(0, 0, 1), mark(1, 0, 1), mark(0, 1, 1), mark(-1, 3, 2), mark(1, 2, 5), mark(1, 0, 1), mark(0, -1, 5), mark(2, 0, 0), mark(0, 1, 1), mark(0, 0, 1))
	traceIs(t, s, 0, mark(0, 0, 1), mark(0, 1, 1), mark(0, -1, 5), mark(0, 1, 1), mark(0, 0, 1))
	traceIs(t, s, 1, mark(1, 0, 1), mark(1, 2, 5), mark(1, 0, 1))
	traceIs(t, s, 2, mark(2, 0, 0))
	traceIs(t, s, -1, mark(-1, 3, 2))
	traceIs(t, s, 3)
	for id := range 3 {
		s.Flights = append(s.Flights, api.Flight{ID: 7})
		traceIs(t, s, id, watch.Trace(marked(s.World.Marks...), id)...)
	}
}

// TestL1TraceGreat: ids, filters and calls may be any number.
func TestL1TraceGreat(t *testing.T) {
	var all []api.Mark
	for _, a := range great() {
		for _, b := range great() {
			all = append(all, mark(a, b, a), mark(b, a, b))
		}
	}
	s := marked(all...)
	for _, id := range append(great(), -1, 0, 1) {
		traceIs(t, s, id, slices.DeleteFunc(slices.Clone(all), func(m api.Mark) bool { return m.ID != id })...)
	}
	for _, id := range great() {
		traceIs(t, marked(mark(0, 0, 1), mark(1, 1, 1), mark(2, 2, 1), mark(id, 3, 1)), id, mark(id, 3, 1))
	}
}

func TestL1HeldNone(t *testing.T) {
	for _, s := range []api.Server{{}, holding([]api.Hold{}...), holding(hold(0, 1, 1), hold(2, 3, 1)), {Flights: make([]api.Flight, 3)}} {
		for _, id := range append(great(), -1, 1, 3) {
			heldIs(t, s, id, [4]int{})
		}
	}
}

// TestL1Held: holds are counted kind by kind from 0 to 3, for whatever filters they were taken.
func TestL1Held(t *testing.T) {
	for kind := range 4 {
		var want [4]int
		for n := range 4 {
			want[kind] = n
			l := slices.Repeat([]api.Hold{hold(5, kind, 2)}, n)
			heldIs(t, holding(l...), 5, want)
			heldIs(t, holding(l...), 2, [4]int{})
			heldIs(t, holding(append(l, hold(4, kind, 5), hold(6, kind, 5))...), 5, want)
		}
	}
	s := holding(hold(0, 1, -1), hold(1, 1, -1), hold(0, 3, 0), hold(0, 0, 7), hold(1, 2, -1), hold(0, 3, 2), hold(0, 2, -1), hold(0, 3, 2), hold(2, 3, 0), hold(0, 1, 1))
	heldIs(t, s, 0, [4]int{1, 2, 1, 3})
	heldIs(t, s, 1, [4]int{0, 1, 1, 0})
	heldIs(t, s, 2, [4]int{0, 0, 0, 1})
	heldIs(t, s, 3, [4]int{})
}

// TestL1HeldOtherKinds: kinds that are none of 0 to 3 are not counted.
func TestL1HeldOtherKinds(t *testing.T) {
	for _, kind := range append(great(), -4, -3, -2, -1, 4, 5, 6, 7) {
		heldIs(t, holding(hold(0, kind, 0)), 0, [4]int{})
		heldIs(t, holding(hold(0, 3, 0), hold(0, kind, 1), hold(0, 0, 0), hold(kind, 2, 0)), 0, [4]int{1, 0, 0, 1})
		heldIs(t, holding(hold(0, 3, 0), hold(kind, kind, 1), hold(kind, 2, kind), hold(0, 0, 0)), kind, [4]int{0, 0, 1, 0})
	}
}

// TestL1TraceHeldOfPlay: what servers that are played have made and hold, ask by ask, is all that there is.
func TestL1TraceHeldOfPlay(t *testing.T) {
	plays(t, 1, func(s api.Server) {
		marks, holds := 0, 0
		for id := range len(s.Flights) + 1 {
			l := watch.Trace(s, id)
			for _, m := range l {
				if m.ID != id {
					t.Fatalf("%d of %+v: %v comes", id, s, l)
				}
			}
			marks += len(l)
			for _, n := range watch.Held(s, id) {
				holds += n
			}
		}
		if marks != len(s.World.Marks) || holds != len(s.World.Ledger.Holds) {
			t.Fatalf("%d marks and %d holds of %+v come", marks, holds, s)
		}
	})
}

// told is the same of two values just if they are the same; nil and a list without entries are.
func told(x any) string { return fmt.Sprintf("%+v", x) }
