package pool_test

import (
	"math"
	"slices"
	"testing"

	"sieveworks/api"
	"sieveworks/ledger"
	"sieveworks/pool"
)

// backIs holds what Back answers against what must come.
func backIs(t *testing.T, w api.World, id int, want api.World, wantNext int, wantErr api.Errno) {
	t.Helper()
	if got, next, err := pool.Back(w, id); err != wantErr || next != wantNext || !same(got, want) {
		t.Errorf("Back(%v, %d): %v, %d, %v comes, not %v, %d, %v", w, id, got, next, err, want, wantNext, wantErr)
	}
}

// TestG1BackOfNone: who holds no lease gives none, whoever waits, and though one is free.
func TestG1BackOfNone(t *testing.T) {
	for _, id := range []int{math.MinInt, -1, 0, 3, 70, 71, 1<<32 + 8, math.MaxInt} {
		for _, queue := range [][]int{nil, {3}, {3, 4, 5}, {id}} {
			for _, most := range []int{-1, 0, 1, 2, math.MaxInt} {
				backIs(t, world(most, nil, queue), id, api.World{}, -1, api.ErrNone)
				backIs(t, world(most, []int{8, 9}, queue), id, api.World{}, -1, api.ErrNone)
			}
		}
	}
	backIs(t, api.World{}, 0, api.World{}, -1, api.ErrNone)
}

// TestG1BackOfOne: the lease is given, wherever it stands; who is first in the queue has it then, last of all.
func TestG1BackOfOne(t *testing.T) {
	for _, x := range []struct{ held, left []int }{{[]int{8}, nil}, {[]int{8, 1, 2}, []int{1, 2}}, {[]int{1, 8, 2}, []int{1, 2}}, {[]int{1, 2, 8}, []int{1, 2}}} {
		for _, most := range []int{len(x.held), len(x.held) + 1, math.MaxInt} {
			backIs(t, world(most, x.held, nil), 8, world(most, x.left, nil), -1, api.OK)
			backIs(t, world(most, x.held, []int{3}), 8, world(most, append(slices.Clone(x.left), 3), nil), 3, api.OK)
			backIs(t, world(most, x.held, []int{5, 3, 4}), 8, world(most, append(slices.Clone(x.left), 5), []int{3, 4}), 5, api.OK)
		}
	}
}

// TestG1BackOfSeveral: of several leases the last one goes; the others stay where they are.
func TestG1BackOfSeveral(t *testing.T) {
	backIs(t, world(3, []int{8, 1, 8}, nil), 8, world(3, []int{8, 1}, nil), -1, api.OK)
	backIs(t, world(4, []int{8, 8, 1, 8}, []int{3}), 8, world(4, []int{8, 8, 1, 3}, nil), 3, api.OK)
	backIs(t, world(3, []int{8, 8, 1}, []int{3, 4, 5}), 8, world(3, []int{8, 1, 3}, []int{4, 5}), 3, api.OK)
	w, want := world(9, nil, nil), world(9, nil, nil)
	for filter := range 4 {
		w.Ledger.Holds = append(w.Ledger.Holds, api.Hold{ID: 8, Kind: api.HoldLease, Filter: filter}, api.Hold{ID: 8, Kind: api.HoldTimer, Filter: filter})
	}
	want.Ledger.Holds = slices.Delete(slices.Clone(w.Ledger.Holds), 8, 9)
	backIs(t, w, 8, want, -1, api.OK)
}

// TestG1BackNoneFree: somebody waits, but as many are held as there are, or more, though one was given: all who wait go on waiting.
func TestG1BackNoneFree(t *testing.T) {
	for _, queue := range [][]int{{3}, {3, 4, 5}, {8}, {-1}} {
		for _, most := range []int{2, 1, 0, -1, math.MinInt} {
			backIs(t, world(most, []int{1, 8, 2}, queue), 8, world(most, []int{1, 2}, queue), -1, api.OK)
			backIs(t, world(most, []int{8, 8, 8}, queue), 8, world(most, []int{8, 8}, queue), -1, api.OK)
		}
		for _, most := range []int{0, -1, math.MinInt} {
			backIs(t, world(most, []int{8}, queue), 8, world(most, nil, queue), -1, api.OK)
		}
		backIs(t, world(3, []int{1, 8, 2}, queue), 8, world(3, []int{1, 2, queue[0]}, queue[1:]), queue[0], api.OK)
	}
}

// TestG1BackOfTwice: an id that waits twice leaves the queue in one place alone, and waits on in the other.
func TestG1BackOfTwice(t *testing.T) {
	one := world(1, []int{3}, []int{3, 4})
	backIs(t, world(1, []int{8}, []int{3, 3, 4}), 8, one, 3, api.OK)
	two := world(1, []int{3}, []int{4})
	backIs(t, one, 3, two, 3, api.OK)
	backIs(t, two, 3, world(1, []int{4}, nil), 4, api.OK)
	backIs(t, world(1, []int{8}, []int{3, 4, 3}), 8, world(1, []int{3}, []int{4, 3}), 3, api.OK)
}

// TestG1BackToWhoever: who is first has the lease, though it holds one already, or gave this one, and whatever its number is.
func TestG1BackToWhoever(t *testing.T) {
	backIs(t, world(2, []int{3, 8}, []int{3, 4}), 8, world(2, []int{3, 3}, []int{4}), 3, api.OK)
	backIs(t, world(2, []int{8, 3}, []int{8, 4}), 8, world(2, []int{3, 8}, []int{4}), 8, api.OK)
	for _, id := range []int{math.MinInt, -2, -1, 0, 1 << 32, math.MaxInt} {
		backIs(t, world(1, []int{8}, []int{id, 4}), 8, world(1, []int{id}, []int{4}), id, api.OK)
		backIs(t, world(1, []int{id}, []int{4, id}), id, world(1, []int{4}, []int{id}), 4, api.OK)
	}
}

// TestG1BackLetsOneIn: of several leases that are free one is taken alone, by who waits longest.
func TestG1BackLetsOneIn(t *testing.T) {
	w := world(9, []int{8}, []int{3, 4, 5})
	backIs(t, w, 8, world(9, []int{3}, []int{4, 5}), 3, api.OK)
}

// TestG1BackOfEvery holds Back against the chapter's words, gone through one by one.
func TestG1BackOfEvery(t *testing.T) {
	tries(func(w api.World, id int) {
		held, at := 0, -1
		for i, h := range w.Ledger.Holds {
			if h.Kind == api.HoldLease {
				held++
				if h.ID == id {
					at = i
				}
			}
		}
		if at < 0 {
			backIs(t, w, id, api.World{}, -1, api.ErrNone)
			return
		}
		want, next := w, -1
		want.Ledger.Holds = slices.Concat(w.Ledger.Holds[:at], w.Ledger.Holds[at+1:])
		if len(w.Queue) > 0 && held-1 < w.Ledger.Most[api.HoldLease] {
			next = w.Queue[0]
			want.Ledger.Holds = append(want.Ledger.Holds, lease(next))
			want.Queue = w.Queue[1:]
		}
		backIs(t, w, id, want, next, api.OK)
	})
}

// TestG1InTurn: of asks that come one behind the other each has a lease in its turn, and no more are held than there are.
func TestG1InTurn(t *testing.T) {
	for most := 1; most <= 4; most++ {
		for waits := range 5 {
			w, came := api.World{Ledger: ledger.New(0, most, 0)}, []int{}
			for id := range 12 {
				x, err := pool.Ask(w, id, waits)
				want := api.ErrFull
				if id < most {
					want = api.OK
				} else if id < most+waits {
					want = api.ErrWait
				}
				if err != want {
					t.Fatalf("%d of %d, %d may wait: %v comes, not %v", id, most, waits, err, want)
				}
				if err != api.ErrFull {
					w, came = x, append(came, id)
				}
			}
			for i, id := range came {
				x, next, err := pool.Back(w, id)
				want := -1
				if i+most < len(came) {
					want = came[i+most]
				}
				if err != api.OK || next != want || ledger.Count(x.Ledger, api.HoldLease) > most {
					t.Fatalf("%d of %d, %d may wait: %v, %d, %v comes, not %d", id, most, waits, x, next, err, want)
				}
				w = x
			}
			if !same(w, api.World{Ledger: ledger.New(0, most, 0)}) {
				t.Errorf("of %d, %d may wait: %v is left", most, waits, w)
			}
		}
	}
}

// TestG1ByNumbers: the same in the numbers that stand in package api, written out.
func TestG1ByNumbers(t *testing.T) {
	w := api.World{Ledger: api.Ledger{Holds: []api.Hold{{ID: 1, Kind: 2, Filter: -1}}, Most: [4]int{0, 0, 1, 0}}, Queue: []int{6}}
	for i, x := range []struct {
		id, waits int
		err       api.Errno
	}{{1, 4, 9}, {6, 4, 9}, {6, 0, 9}, {2, 2, 10}, {2, 1, 8}, {2, 0, 8}} {
		if _, err := pool.Ask(w, x.id, x.waits); err != x.err {
			t.Errorf("%d: %v comes, not %v", i, err, x.err)
		}
	}
	if x, next, err := pool.Back(w, 1); err != 0 || next != 6 || len(x.Queue) != 0 || !slices.Equal(x.Ledger.Holds, []api.Hold{{ID: 6, Kind: 2, Filter: -1}}) {
		t.Errorf("%v, %d, %v comes", x, next, err)
	}
	if _, next, err := pool.Back(w, 6); err != 6 || next != -1 {
		t.Errorf("%d, %v comes of who waits", next, err)
	}
}
