package pool_test

import (
	"math"
	"slices"
	"testing"

	"sieveworks/api"
	"sieveworks/ledger"
	"sieveworks/pool"
)

// lease is a hold as this package takes it.
func lease(id int) api.Hold { return api.Hold{ID: id, Kind: api.HoldLease, Filter: -1} }

// world has so many leases in all, those ids hold one each, and those wait; something stands in all that this package has no part in.
func world(most int, held, queue []int) api.World {
	w := api.World{
		Ledger: api.Ledger{
			Holds: []api.Hold{{ID: 70, Kind: api.HoldFlight, Filter: -1}, {ID: 71, Kind: api.HoldTimer, Filter: 2}},
			Most:  [4]int{5, 6, most, 7},
		},
		Gates:  []int{0, 2, 1},
		Failed: []int{3, 0},
		Queue:  slices.Clone(queue),
		Marks:  []api.Mark{{ID: 70, Filter: 0, Call: api.CallAsk}, {ID: 71, Filter: -1, Call: api.CallUp}},
	}
	for _, id := range held {
		w.Ledger.Holds = append(w.Ledger.Holds, lease(id))
	}
	return w
}

// same holds worlds against each other; nil and a list without entries are the same.
func same(a, b api.World) bool {
	return a.Ledger.Most == b.Ledger.Most && slices.Equal(a.Ledger.Holds, b.Ledger.Holds) && slices.Equal(a.Gates, b.Gates) &&
		slices.Equal(a.Failed, b.Failed) && slices.Equal(a.Queue, b.Queue) && slices.Equal(a.Marks, b.Marks)
}

// strange could not come of this package: more is held than there is, leases are held for filters and twice by one, kinds are none, and waiting ones wait twice or hold what they wait for.
func strange() api.World {
	return api.World{
		Ledger: api.Ledger{
			Holds: []api.Hold{
				{ID: -1, Kind: api.HoldLease, Filter: 4}, {ID: 0, Kind: 0, Filter: -1}, {ID: 3, Kind: api.HoldLease, Filter: math.MinInt}, {ID: 0, Kind: 4},
				{ID: math.MaxInt, Kind: api.HoldLease, Filter: -1}, {ID: 3, Kind: api.HoldLease, Filter: 0}, {ID: 2, Kind: -2, Filter: -1}, {ID: 1, Kind: 1<<32 + 2, Filter: -1},
			},
			Most: [4]int{-5, math.MinInt, 2, math.MaxInt},
		},
		Gates:  []int{math.MinInt, -1, math.MaxInt},
		Failed: []int{-7},
		Queue:  []int{3, 7, 3, math.MinInt, 7},
		Marks:  []api.Mark{{ID: -1, Filter: 99, Call: -3}},
	}
}

// worlds are those that calls are tried of: of few leases and many, free ones and none, with nobody waiting, one, and several.
func worlds() []api.World {
	empty := api.World{Ledger: ledger.New(1, 1, 1), Gates: []int{}, Failed: []int{}, Queue: []int{}, Marks: []api.Mark{}}
	empty.Ledger.Holds = []api.Hold{}
	l := []api.World{{}, empty, {Ledger: ledger.New(0, math.MaxInt, 0)}, strange()}
	for _, most := range []int{math.MinInt, -1, 0, 1, 2, 3, 4, math.MaxInt} {
		for _, held := range [][]int{nil, {0}, {0, 1, 2}, {1, 0, 1}, {-1, math.MaxInt, 0}} {
			for _, queue := range [][]int{nil, {3}, {-1}, {3, 4, 5}, {4, 4, 3}, {1, 3, 1}, {math.MaxInt, math.MinInt}} {
				l = append(l, world(most, held, queue))
			}
		}
	}
	return l
}

// ids are those that are tried, some of which hold something, or wait.
func ids() []int {
	return []int{math.MinInt, -2, -1, 0, 1, 2, 3, 4, 5, 7, 70, 71, 1 << 32, math.MaxInt - 1, math.MaxInt}
}

// waits are how many may wait, as it is tried.
func waits() []int { return []int{math.MinInt, -3, -1, 0, 1, 2, 3, 4, 5, 6, 1 << 32, math.MaxInt} }

// tries calls do with every world and id that is tried.
func tries(do func(w api.World, id int)) {
	for _, w := range worlds() {
		for _, id := range ids() {
			do(w, id)
		}
	}
}

// askIs holds what Ask answers against what must come.
func askIs(t *testing.T, w api.World, id, waits int, want api.World, wantErr api.Errno) {
	t.Helper()
	if got, err := pool.Ask(w, id, waits); err != wantErr || !same(got, want) {
		t.Errorf("Ask(%v, %d, %d): %v, %v comes, not %v, %v", w, id, waits, got, err, want, wantErr)
	}
}

func TestG1Own(t *testing.T) {
	for _, w := range worlds() {
		if got := pool.Own(w); !same(got, w) {
			t.Errorf("Own(%v): %v comes", w, got)
		}
	}
}

// TestG1Example: one may be asked: the second one waits, and is next.
func TestG1Example(t *testing.T) {
	first := world(1, []int{5}, nil)
	askIs(t, world(1, nil, nil), 5, 4, first, api.OK)
	second := world(1, []int{5}, []int{6})
	askIs(t, first, 6, 4, second, api.ErrWait)
	backIs(t, second, 5, world(1, []int{6}, nil), 6, api.OK)
	backIs(t, world(1, []int{6}, nil), 6, world(1, nil, nil), -1, api.OK)
}

// TestG1AskTakes: nobody waits, and a lease is free: it is taken, however many may wait.
func TestG1AskTakes(t *testing.T) {
	for _, id := range []int{math.MinInt, -1, 0, 5, 70, 1 << 32, math.MaxInt} {
		for _, n := range waits() {
			askIs(t, world(1, nil, nil), id, n, world(1, []int{id}, nil), api.OK)
			askIs(t, world(3, []int{8, 9}, nil), id, n, world(3, []int{8, 9, id}, nil), api.OK)
			askIs(t, world(math.MaxInt, []int{8, 9}, nil), id, n, world(math.MaxInt, []int{8, 9, id}, nil), api.OK)
		}
	}
	askIs(t, api.World{Ledger: ledger.New(0, 1, 0)}, 4, 0, api.World{Ledger: api.Ledger{Holds: []api.Hold{{ID: 4, Kind: 2, Filter: -1}}, Most: [4]int{0, 0, 1, 0}}}, api.OK)
}

// TestG1AskNoneFree: as many are held as there are, or more, down to none that there are: who asks waits, if one may.
func TestG1AskNoneFree(t *testing.T) {
	for _, held := range [][]int{nil, {8}, {8, 9}, {8, 9, 8}} {
		for _, most := range []int{len(held), len(held) - 1, 0, -1, -2, math.MinInt} {
			if most > len(held) {
				continue
			}
			w := world(most, held, nil)
			for _, n := range []int{1, 2, math.MaxInt} {
				askIs(t, w, 5, n, world(most, held, []int{5}), api.ErrWait)
			}
			for _, n := range []int{0, -1, math.MinInt} {
				askIs(t, w, 5, n, api.World{}, api.ErrFull)
			}
		}
	}
}

// TestG1AskBehind: while somebody waits nobody takes a lease, though one is free.
func TestG1AskBehind(t *testing.T) {
	for _, most := range []int{1, 2, 9, math.MaxInt} {
		askIs(t, world(most, nil, []int{3}), 5, 2, world(most, nil, []int{3, 5}), api.ErrWait)
		askIs(t, world(most, nil, []int{3, 2, 1}), 0, 4, world(most, nil, []int{3, 2, 1, 0}), api.ErrWait)
		askIs(t, world(most, nil, []int{3}), 5, 1, api.World{}, api.ErrFull)
		askIs(t, world(most, nil, []int{3}), 5, 0, api.World{}, api.ErrFull)
	}
}

// TestG1AskWaitsAlready: who is in the queue, wherever, is told so, also where it is full.
func TestG1AskWaitsAlready(t *testing.T) {
	for _, most := range []int{-1, 0, 1, 2, math.MaxInt} {
		for _, n := range waits() {
			for _, id := range []int{-1, 3, math.MaxInt} {
				for _, queue := range [][]int{{id}, {id, 5, 6}, {5, id, 6}, {5, 6, id}, {id, 5, id}, {5, id, id, 6}} {
					askIs(t, world(most, nil, queue), id, n, api.World{}, api.ErrDone)
					askIs(t, world(most, []int{8}, queue), id, n, api.World{}, api.ErrDone)
				}
			}
		}
	}
}

// TestG1AskHoldsAlready: who holds a lease, wherever, and for whatever filter, is told so, also where the queue is full.
func TestG1AskHoldsAlready(t *testing.T) {
	for _, most := range []int{-1, 0, 1, 2, math.MaxInt} {
		for _, n := range waits() {
			for _, queue := range [][]int{nil, {5}, {5, 6, 7}} {
				for _, held := range [][]int{{3}, {3, 8, 9}, {8, 3, 9}, {8, 9, 3}, {3, 8, 3}} {
					askIs(t, world(most, held, queue), 3, n, api.World{}, api.ErrDone)
				}
				for _, filter := range []int{math.MinInt, -2, 0, 4, math.MaxInt} {
					w := world(most, nil, queue)
					w.Ledger.Holds = append(w.Ledger.Holds, api.Hold{ID: 3, Kind: api.HoldLease, Filter: filter})
					askIs(t, w, 3, n, api.World{}, api.ErrDone)
				}
			}
		}
	}
}

// TestG1AskHoldsOther: who holds something else alone holds no lease, and has none taken away.
func TestG1AskHoldsOther(t *testing.T) {
	for _, kind := range []int{api.HoldFlight, api.HoldTimer, 0, 4, -2, 1<<32 + 2, math.MaxInt, math.MinInt} {
		with := func(w api.World) api.World {
			w.Ledger.Holds = slices.Insert(w.Ledger.Holds, 0, api.Hold{ID: 3, Kind: kind, Filter: -1}, api.Hold{ID: 3, Kind: kind, Filter: -1})
			return w
		}
		askIs(t, with(world(1, nil, nil)), 3, 0, with(world(1, []int{3}, nil)), api.OK)
		askIs(t, with(world(1, []int{8}, nil)), 3, 1, with(world(1, []int{8}, []int{3})), api.ErrWait)
		askIs(t, with(world(1, []int{8}, nil)), 3, 0, api.World{}, api.ErrFull)
		backIs(t, with(world(1, []int{8}, []int{4})), 3, api.World{}, -1, api.ErrNone)
	}
}

// TestG1AskWaits: as many wait as may, one less, and one more; and none may.
func TestG1AskWaits(t *testing.T) {
	for _, most := range []int{0, 1, 5} {
		for _, queue := range [][]int{{3}, {3, 4}, {3, 4, 6, 7}, {3, 3, 3}} {
			w := world(most, []int{8}, queue)
			n := len(queue)
			for _, more := range []int{n + 1, n + 2, 1 << 32, math.MaxInt} {
				askIs(t, w, 5, more, world(most, []int{8}, append(slices.Clone(queue), 5)), api.ErrWait)
			}
			for _, less := range []int{n, n - 1, 1, 0, -1, -n, -1 << 32, math.MinInt} {
				askIs(t, w, 5, less, api.World{}, api.ErrFull)
			}
		}
	}
}

// TestG1AskOfEvery holds Ask against the chapter's words, gone through one by one.
func TestG1AskOfEvery(t *testing.T) {
	tries(func(w api.World, id int) {
		held, has := 0, slices.Contains(w.Queue, id)
		for _, h := range w.Ledger.Holds {
			if h.Kind == api.HoldLease {
				held++
				has = has || h.ID == id
			}
		}
		for _, n := range waits() {
			want, wantErr := w, api.OK
			switch {
			case has:
				want, wantErr = api.World{}, api.ErrDone
			case len(w.Queue) == 0 && held < w.Ledger.Most[api.HoldLease]:
				want.Ledger.Holds = slices.Concat(w.Ledger.Holds, []api.Hold{lease(id)})
			case len(w.Queue) >= n:
				want, wantErr = api.World{}, api.ErrFull
			default:
				want.Queue, wantErr = slices.Concat(w.Queue, []int{id}), api.ErrWait
			}
			askIs(t, w, id, n, want, wantErr)
		}
	})
}
