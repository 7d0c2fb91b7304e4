package ledger_test

import (
	"math"
	"slices"
	"testing"

	"sieveworks/api"
	"sieveworks/ledger"
)

// kinds are those that there are.
func kinds() []int { return []int{api.HoldFlight, api.HoldLease, api.HoldTimer} }

// others are numbers that are no kind's.
func others() []int {
	return []int{0, 4, 5, -1, -2, -3, 257, 1<<32 + 1, math.MaxInt, math.MinInt}
}

// numbers may be ids, filters, and how much there is.
func numbers() []int { return []int{math.MinInt, -2, -1, 0, 1, 2, 3, 7, math.MaxInt} }

// some has ids that hold one thing (2), several of one kind (5), of more than one (0, 1), and nothing; of each kind there is one more.
func some() api.Ledger {
	return api.Ledger{
		Holds: []api.Hold{
			{ID: 0, Kind: api.HoldFlight, Filter: -1}, {ID: 1, Kind: api.HoldFlight, Filter: -1}, {ID: 0, Kind: api.HoldTimer, Filter: 2},
			{ID: 5, Kind: api.HoldTimer, Filter: 3}, {ID: 0, Kind: api.HoldLease, Filter: -1}, {ID: 2, Kind: api.HoldLease, Filter: -1},
			{ID: 5, Kind: api.HoldTimer, Filter: 4}, {ID: 0, Kind: api.HoldTimer, Filter: 2}, {ID: 1, Kind: api.HoldTimer, Filter: 0},
		},
		Most: [4]int{0, 3, 3, 6},
	}
}

// strange could not come of New and Take: more is held than there is, some of no kind, and Most has something in its first place.
func strange() api.Ledger {
	return api.Ledger{
		Holds: []api.Hold{
			{ID: -1, Kind: 0, Filter: 9}, {ID: 0, Kind: 4, Filter: -7}, {ID: -1, Kind: api.HoldLease, Filter: math.MaxInt}, {ID: 0, Kind: -1},
			{ID: 0, Kind: 0}, {ID: math.MinInt, Kind: math.MaxInt}, {ID: 0, Kind: api.HoldLease}, {ID: 0, Kind: 4}, {ID: -1, Kind: 0},
		},
		Most: [4]int{7, -1, 1, math.MaxInt},
	}
}

// ledgers are those that calls are tried of.
func ledgers() []api.Ledger {
	empty := ledger.New(1, 1, 1)
	empty.Holds = []api.Hold{}
	return []api.Ledger{{}, ledger.New(1, 2, 3), ledger.New(0, 0, 0), ledger.New(-1, math.MinInt, math.MaxInt), empty, some(), strange()}
}

// same holds ledgers against each other; nil and no holds are the same.
func same(a, b api.Ledger) bool {
	return a.Most == b.Most && slices.Equal(a.Holds, b.Holds)
}

// scribble changes a list, and the spare room behind it.
func scribble(l []api.Hold) {
	l = l[:cap(l)]
	for i := range l {
		l[i] = api.Hold{ID: -9, Kind: -9, Filter: -9}
	}
}

// tries calls do with every ledger, id and kind that is tried.
func tries(do func(l api.Ledger, id, kind int)) {
	for _, l := range ledgers() {
		for _, id := range append(numbers(), 5) {
			for _, kind := range append(kinds(), others()...) {
				do(l, id, kind)
			}
		}
	}
}

func TestC1New(t *testing.T) {
	for _, flights := range numbers() {
		for _, leases := range numbers() {
			for _, timers := range numbers() {
				got := ledger.New(flights, leases, timers)
				if want := (api.Ledger{Most: [4]int{0, flights, leases, timers}}); !same(got, want) {
					t.Fatalf("New(%d, %d, %d): %v comes", flights, leases, timers, got)
				}
				if got.Most[api.HoldFlight] != flights || got.Most[api.HoldLease] != leases || got.Most[api.HoldTimer] != timers {
					t.Fatalf("New(%d, %d, %d): %v comes", flights, leases, timers, got)
				}
			}
		}
	}
}

func TestC1Own(t *testing.T) {
	for _, l := range ledgers() {
		if got := ledger.Own(l); !same(got, l) {
			t.Errorf("Own(%v): %v comes", l, got)
		}
	}
}

func TestC1Count(t *testing.T) {
	for kind, want := range map[int]int{api.HoldFlight: 2, api.HoldLease: 2, api.HoldTimer: 5, 0: 0, 4: 0, -1: 0, 9: 0, math.MaxInt: 0, math.MinInt: 0} {
		if got := ledger.Count(some(), kind); got != want {
			t.Errorf("kind %d: %d comes, not %d", kind, got, want)
		}
		if got := ledger.Count(api.Ledger{Most: some().Most}, kind); got != 0 {
			t.Errorf("kind %d: %d comes of nothing", kind, got)
		}
	}
	for kind, want := range map[int]int{0: 3, 4: 2, -1: 1, math.MaxInt: 1, api.HoldLease: 2, api.HoldFlight: 0, api.HoldTimer: 0, 5: 0, 7: 0, 9: 0, -7: 0} {
		if got := ledger.Count(strange(), kind); got != want {
			t.Errorf("kind %d of strange holds: %d comes, not %d", kind, got, want)
		}
	}
}

// TestC1Example: a timer is taken by 5, for filter 3, and given back.
func TestC1Example(t *testing.T) {
	l, err := ledger.Take(ledger.New(0, 0, 1), 5, api.HoldTimer, 3)
	want := api.Hold{ID: 5, Kind: api.HoldTimer, Filter: 3}
	if err != api.OK || !same(l, api.Ledger{Holds: []api.Hold{want}, Most: [4]int{0, 0, 0, 1}}) {
		t.Fatalf("%v, %v comes", l, err)
	}
	if h, ok := ledger.Last(l, 5); h != want || !ok {
		t.Errorf("%v, %v is the last one", h, ok)
	}
	l, err = ledger.Give(l, 5, api.HoldTimer)
	if err != api.OK || !same(l, ledger.New(0, 0, 1)) {
		t.Errorf("given back: %v, %v comes", l, err)
	}
}

func TestC1Take(t *testing.T) {
	tries(func(l api.Ledger, id, kind int) {
		for _, filter := range numbers() {
			var want api.Ledger
			wantErr := api.ErrKind
			if slices.Contains(kinds(), kind) {
				wantErr = api.ErrFull
				if ledger.Count(l, kind) < l.Most[kind] {
					wantErr = api.OK
					want = api.Ledger{Holds: slices.Concat(l.Holds, []api.Hold{{ID: id, Kind: kind, Filter: filter}}), Most: l.Most}
				}
			}
			if got, err := ledger.Take(l, id, kind, filter); err != wantErr || !same(got, want) {
				t.Fatalf("Take(%v, %d, %d, %d): %v, %v comes, not %v, %v", l, id, kind, filter, got, err, want, wantErr)
			}
		}
	})
}

// TestC1TakeUpToMost: as many as there are can be taken, whoever takes them, and whatever is held of other kinds.
func TestC1TakeUpToMost(t *testing.T) {
	for _, kind := range kinds() {
		for most := -2; most <= 4; most++ {
			l := api.Ledger{Most: [4]int{9, 9, 9, 9}}
			for _, other := range kinds() {
				for i := range 6 {
					if other != kind {
						l.Holds = append(l.Holds, api.Hold{ID: i, Kind: other})
					}
				}
			}
			l.Most[kind] = most
			taken := 0
			for i := range 8 {
				x, err := ledger.Take(l, i/2, kind, i)
				if err == api.OK {
					taken++
					l = x
				} else if err != api.ErrFull {
					t.Fatalf("kind %d: %v comes", kind, err)
				}
			}
			if taken != max(most, 0) || ledger.Count(l, kind) != taken {
				t.Errorf("kind %d, of %d: %d are taken, %d are held", kind, most, taken, ledger.Count(l, kind))
			}
		}
	}
}

// TestC1TakeJustReached: one less than Most, Most, and more than it are held.
func TestC1TakeJustReached(t *testing.T) {
	for _, kind := range kinds() {
		for held := range 5 {
			l := ledger.New(2, 2, 2)
			for i := range held {
				l.Holds = append(l.Holds, api.Hold{ID: i, Kind: kind})
			}
			want := api.ErrFull
			if held < 2 {
				want = api.OK
			}
			if _, err := ledger.Take(l, 0, kind, 0); err != want {
				t.Errorf("kind %d, %d are held: %v comes, not %v", kind, held, err, want)
			}
		}
	}
}

func TestC1Last(t *testing.T) {
	l := some()
	for id, want := range map[int]api.Hold{
		0: {ID: 0, Kind: api.HoldTimer, Filter: 2}, 1: {ID: 1, Kind: api.HoldTimer, Filter: 0},
		2: {ID: 2, Kind: api.HoldLease, Filter: -1}, 5: {ID: 5, Kind: api.HoldTimer, Filter: 4},
	} {
		if got, ok := ledger.Last(l, id); got != want || !ok {
			t.Errorf("%d: %v, %v comes, not %v", id, got, ok, want)
		}
	}
	for _, id := range []int{3, 4, 6, -1, math.MinInt, math.MaxInt} {
		if got, ok := ledger.Last(l, id); got != (api.Hold{}) || ok {
			t.Errorf("%d, that holds nothing: %v, %v comes", id, got, ok)
		}
	}
	tries(func(l api.Ledger, id, _ int) {
		var want api.Hold
		all := ledger.All(l, id)
		if len(all) > 0 {
			want = all[0]
		}
		if got, ok := ledger.Last(l, id); got != want || ok != (len(all) > 0) {
			t.Fatalf("Last(%v, %d): %v, %v comes, not %v", l, id, got, ok, want)
		}
	})
}

func TestC1Give(t *testing.T) {
	for _, c := range []struct{ id, kind, gone int }{
		{0, api.HoldFlight, 0}, {0, api.HoldLease, 4}, {0, api.HoldTimer, 7}, {1, api.HoldFlight, 1}, {1, api.HoldTimer, 8}, {2, api.HoldLease, 5}, {5, api.HoldTimer, 6},
	} {
		want := some()
		want.Holds = slices.Delete(want.Holds, c.gone, c.gone+1)
		if got, err := ledger.Give(some(), c.id, c.kind); err != api.OK || !same(got, want) {
			t.Errorf("Give(%d, %d): %v, %v comes, not %v", c.id, c.kind, got, err, want)
		}
	}
	for _, c := range []struct{ id, kind int }{
		{1, api.HoldLease}, {2, api.HoldFlight}, {2, api.HoldTimer}, {5, api.HoldFlight}, {3, api.HoldFlight}, {-1, api.HoldTimer}, {0, 0}, {0, 4}, {5, -1}, {math.MaxInt, math.MaxInt},
	} {
		if got, err := ledger.Give(some(), c.id, c.kind); err != api.ErrNone || !same(got, api.Ledger{}) {
			t.Errorf("Give(%d, %d), of which there is none: %v, %v comes", c.id, c.kind, got, err)
		}
	}
}

// TestC1GiveOfEvery: of what is held, of whatever kind, one goes, and the rest stays in its order.
func TestC1GiveOfEvery(t *testing.T) {
	tries(func(l api.Ledger, id, kind int) {
		var want api.Ledger
		wantErr := api.ErrNone
		for i, h := range l.Holds {
			if h.ID == id && h.Kind == kind {
				want = api.Ledger{Holds: slices.Concat(l.Holds[:i], l.Holds[i+1:]), Most: l.Most}
				wantErr = api.OK
			}
		}
		if got, err := ledger.Give(l, id, kind); err != wantErr || !same(got, want) {
			t.Fatalf("Give(%v, %d, %d): %v, %v comes, not %v, %v", l, id, kind, got, err, want, wantErr)
		}
	})
}

func TestC1All(t *testing.T) {
	for id, want := range map[int][]api.Hold{
		0: {{ID: 0, Kind: api.HoldTimer, Filter: 2}, {ID: 0, Kind: api.HoldLease, Filter: -1}, {ID: 0, Kind: api.HoldTimer, Filter: 2}, {ID: 0, Kind: api.HoldFlight, Filter: -1}},
		1: {{ID: 1, Kind: api.HoldTimer, Filter: 0}, {ID: 1, Kind: api.HoldFlight, Filter: -1}},
		2: {{ID: 2, Kind: api.HoldLease, Filter: -1}},
		5: {{ID: 5, Kind: api.HoldTimer, Filter: 4}, {ID: 5, Kind: api.HoldTimer, Filter: 3}},
		3: nil, -1: nil, math.MaxInt: nil, math.MinInt: nil,
	} {
		if got := ledger.All(some(), id); !slices.Equal(got, want) {
			t.Errorf("%d: %v comes, not %v", id, got, want)
		}
	}
	tries(func(l api.Ledger, id, _ int) {
		var want []api.Hold
		for _, h := range l.Holds {
			if h.ID == id {
				want = append([]api.Hold{h}, want...)
			}
		}
		if got := ledger.All(l, id); !slices.Equal(got, want) {
			t.Fatalf("All(%v, %d): %v comes, not %v", l, id, got, want)
		}
	})
}

// TestC1TakenAndGiven: what was taken last is given back first, until nothing is left; then there is room again.
func TestC1TakenAndGiven(t *testing.T) {
	l := some()
	for _, id := range []int{0, 5, 1, 2} {
		for _, h := range ledger.All(l, id) {
			if got, ok := ledger.Last(l, id); got != h || !ok {
				t.Errorf("%v, %v is the last one, not %v", got, ok, h)
			}
			x, err := ledger.Give(l, id, h.Kind)
			if err != api.OK || ledger.Count(x, h.Kind) != ledger.Count(l, h.Kind)-1 {
				t.Fatalf("%v: %v, %v comes", h, x, err)
			}
			l = x
		}
		if got, ok := ledger.Last(l, id); ok {
			t.Errorf("%d still holds %v", id, got)
		}
	}
	if !same(l, api.Ledger{Most: some().Most}) {
		t.Errorf("%v is left", l)
	}
	full, _ := ledger.Take(ledger.New(1, 1, 1), 0, api.HoldLease, -1)
	if _, err := ledger.Take(full, 1, api.HoldLease, -1); err != api.ErrFull {
		t.Errorf("%v comes of a full one", err)
	}
	room, _ := ledger.Give(full, 0, api.HoldLease)
	if x, err := ledger.Take(room, 1, api.HoldLease, -1); err != api.OK || ledger.Count(x, api.HoldLease) != 1 {
		t.Errorf("%v, %v comes where there is room again", x, err)
	}
}

// roomy has spare room behind its holds, with something in there that nobody may touch or look at.
func roomy(l api.Ledger) (api.Ledger, []api.Hold) {
	behind := slices.Concat(l.Holds, []api.Hold{{ID: 3, Kind: api.HoldLease, Filter: 1}, {ID: 0, Kind: api.HoldFlight, Filter: 1}})
	l.Holds = behind[:len(l.Holds)]
	return l, behind
}

// answers are lists of all the calls that answer some.
func answers(l api.Ledger, id, kind int) [][]api.Hold {
	taken, _ := ledger.Take(l, id, kind, 6)
	given, _ := ledger.Give(l, id, kind)
	return [][]api.Hold{ledger.Own(l).Holds, taken.Holds, given.Holds, ledger.All(l, id)}
}

// TestC1OnlyReads: what was handed in, and the spare room behind it, is as it was, whatever becomes of the answers; and these stay, whatever becomes of that.
func TestC1OnlyReads(t *testing.T) {
	tries(func(l api.Ledger, id, kind int) {
		x, behind := roomy(l)
		_, wantBehind := roomy(l)
		for i, a := range answers(x, id, kind) {
			scribble(a)
			if !same(x, l) || !slices.Equal(behind, wantBehind) {
				t.Fatalf("%v, %d, %d: of answer %d a change shows: %v", l, id, kind, i, behind)
			}
		}
		got, want := answers(x, id, kind), answers(l, id, kind)
		scribble(behind)
		for i := range got {
			if !slices.Equal(got[i], want[i]) {
				t.Fatalf("%v, %d, %d: answer %d is changed: %v, not %v", l, id, kind, i, got[i], want[i])
			}
		}
	})
}

// TestC1SpareRoomIsNotLookedAt: holds behind the end are none.
func TestC1SpareRoomIsNotLookedAt(t *testing.T) {
	for _, l := range ledgers() {
		x, _ := roomy(l)
		for _, id := range []int{0, 3} {
			for _, kind := range kinds() {
				if got, want := ledger.Count(x, kind), ledger.Count(l, kind); got != want {
					t.Errorf("Count(%v, %d): %d comes, not %d", l, kind, got, want)
				}
				got, gotOK := ledger.Last(x, id)
				want, wantOK := ledger.Last(l, id)
				if got != want || gotOK != wantOK {
					t.Errorf("Last(%v, %d): %v, %v comes", l, id, got, gotOK)
				}
				if got, want := answers(x, id, kind), answers(l, id, kind); !slices.EqualFunc(got, want, slices.Equal[[]api.Hold]) {
					t.Errorf("%v, %d, %d: %v comes, not %v", l, id, kind, got, want)
				}
			}
		}
	}
}
