package pool_test

import (
	"slices"
	"sync"
	"testing"

	"sieveworks/api"
	"sieveworks/pool"
)

// deep copies a world by other means than the ones that are tried, with nothing behind its lists.
func deep(w api.World) api.World {
	w.Ledger.Holds = slices.Clip(slices.Clone(w.Ledger.Holds))
	w.Gates = slices.Clip(slices.Clone(w.Gates))
	w.Failed = slices.Clip(slices.Clone(w.Failed))
	w.Queue = slices.Clip(slices.Clone(w.Queue))
	w.Marks = slices.Clip(slices.Clone(w.Marks))
	return w
}

// roomy has spare room behind each list, with something in there that nobody may touch or look at; whole has that room in its lists.
func roomy(w api.World) (short, whole api.World) {
	whole = deep(w)
	whole.Ledger.Holds = append(whole.Ledger.Holds, lease(0), lease(5), lease(3))
	whole.Gates = append(whole.Gates, 41, 42)
	whole.Failed = append(whole.Failed, 43, 44)
	whole.Queue = append(whole.Queue, 0, 5, 2)
	whole.Marks = append(whole.Marks, api.Mark{ID: 45, Filter: 46, Call: 47}, api.Mark{ID: 48})
	short = whole
	short.Ledger.Holds = whole.Ledger.Holds[:len(w.Ledger.Holds)]
	short.Gates = whole.Gates[:len(w.Gates)]
	short.Failed = whole.Failed[:len(w.Failed)]
	short.Queue = whole.Queue[:len(w.Queue)]
	short.Marks = whole.Marks[:len(w.Marks)]
	return short, whole
}

// fill writes something else over a list, and over the spare room behind it.
func fill[T any](l []T, x T) {
	l = l[:cap(l)]
	for i := range l {
		l[i] = x
	}
}

// scribble changes all that a world has in lists.
func scribble(w api.World) {
	fill(w.Ledger.Holds, api.Hold{ID: -9, Kind: -9, Filter: -9})
	fill(w.Gates, -91)
	fill(w.Failed, -92)
	fill(w.Queue, -93)
	fill(w.Marks, api.Mark{ID: -94, Filter: -94, Call: -94})
}

// answers are those of all the calls, Own's first.
func answers(w api.World, id, waits int) []api.World {
	asked, _ := pool.Ask(w, id, waits)
	back, _, _ := pool.Back(w, id)
	return []api.World{pool.Own(w), asked, back}
}

// TestG1OnlyReads: what was handed in, and the spare room behind it, is as it was, whatever becomes of the answers; and these stay, whatever becomes of that.
func TestG1OnlyReads(t *testing.T) {
	tries(func(w api.World, id int) {
		for _, waits := range []int{0, 2, 9} {
			short, whole := roomy(w)
			_, wantWhole := roomy(w)
			for i, a := range answers(short, id, waits) {
				if !same(short, w) || !same(whole, wantWhole) {
					t.Fatalf("%v, %d, %d: it is changed: %v", w, id, waits, whole)
				}
				scribble(a)
				if !same(short, w) || !same(whole, wantWhole) {
					t.Fatalf("%v, %d, %d: of answer %d a change shows: %v", w, id, waits, i, whole)
				}
			}
			got, want := answers(short, id, waits), answers(deep(w), id, waits)
			scribble(whole)
			for i := range got {
				if !same(got[i], want[i]) {
					t.Fatalf("%v, %d, %d: answer %d is changed: %v, not %v", w, id, waits, i, got[i], want[i])
				}
			}
		}
	})
}

// TestG1SpareRoomIsNotLookedAt: who stands behind the end of the queue does not wait, and what stands behind the holds is not held.
func TestG1SpareRoomIsNotLookedAt(t *testing.T) {
	tries(func(w api.World, id int) {
		short, _ := roomy(w)
		for _, n := range waits() {
			got, gotErr := pool.Ask(short, id, n)
			want, wantErr := pool.Ask(deep(w), id, n)
			if gotErr != wantErr || !same(got, want) {
				t.Fatalf("Ask(%v, %d, %d): %v, %v comes, not %v, %v", w, id, n, got, gotErr, want, wantErr)
			}
		}
		got, gotNext, gotErr := pool.Back(short, id)
		want, wantNext, wantErr := pool.Back(deep(w), id)
		if gotErr != wantErr || gotNext != wantNext || !same(got, want) {
			t.Fatalf("Back(%v, %d): %v, %d, %v comes, not %v, %d, %v", w, id, got, gotNext, gotErr, want, wantNext, wantErr)
		}
		if got := pool.Own(short); !same(got, w) {
			t.Fatalf("Own(%v): %v comes", w, got)
		}
	})
}

// TestG1AnswersShareNothing: answers of one world can go their own ways.
func TestG1AnswersShareNothing(t *testing.T) {
	for _, w := range []api.World{world(2, []int{8}, nil), world(1, []int{8}, nil), world(1, []int{8}, []int{3, 4}), world(0, []int{8}, []int{3, 4})} {
		base, _ := roomy(w)
		for _, id := range []int{5, 8} {
			one, other := answers(base, id, 9), answers(base, id, 9)
			for i := range one {
				for j := range other {
					if i != j {
						scribble(other[j])
					}
				}
				if want := answers(deep(w), id, 9)[i]; !same(one[i], want) {
					t.Errorf("%v, %d: answer %d is changed: %v, not %v", w, id, i, one[i], want)
				}
			}
		}
	}
	full := world(1, []int{8}, []int{3})
	x, _ := pool.Ask(full, 4, 9)
	five, _ := pool.Ask(x, 5, 9)
	six, _ := pool.Ask(x, 6, 9)
	if !slices.Equal(five.Queue, []int{3, 4, 5}) || !slices.Equal(six.Queue, []int{3, 4, 6}) || !slices.Equal(x.Queue, []int{3, 4}) {
		t.Errorf("%v, %v, %v wait", x.Queue, five.Queue, six.Queue)
	}
}

// TestG1NothingIsKept: a world that is changed between calls is looked at anew.
func TestG1NothingIsKept(t *testing.T) {
	w := world(1, []int{8}, []int{3})
	for range 3 {
		askIs(t, w, 3, 9, api.World{}, api.ErrDone)
		w.Queue[0] = 4
		askIs(t, w, 3, 9, world(1, []int{8}, []int{4, 3}), api.ErrWait)
		backIs(t, w, 8, world(1, []int{4}, nil), 4, api.OK)
		w.Queue[0] = 3
		backIs(t, w, 8, world(1, []int{3}, nil), 3, api.OK)
	}
}

// TestG1AtOnce: calls may share what they are handed, for they only read it.
func TestG1AtOnce(t *testing.T) {
	w, whole := roomy(world(2, []int{8, 9}, []int{3}))
	_, wantWhole := roomy(world(2, []int{8, 9}, []int{3}))
	var all sync.WaitGroup
	for i := range 50 {
		all.Go(func() {
			x, err := pool.Ask(w, 100+i, 2)
			if err != api.ErrWait || !slices.Equal(x.Queue, []int{3, 100 + i}) {
				t.Errorf("%v, %v comes", x, err)
			}
			if x, next, err := pool.Back(w, 8+i%2); err != api.OK || next != 3 || len(x.Queue) != 0 {
				t.Errorf("%v, %d, %v comes", x, next, err)
			}
			scribble(pool.Own(w))
		})
	}
	all.Wait()
	if !same(whole, wantWhole) {
		t.Errorf("%v is left", whole)
	}
}

// TestG1Long: many wait, and many hold.
func TestG1Long(t *testing.T) {
	const n = 1 << 16
	held, queue := make([]int, n), make([]int, n)
	for i := range n {
		held[i], queue[i] = i, n+i
	}
	w := world(n, held, queue)
	askIs(t, w, n-1, n+1, api.World{}, api.ErrDone)
	askIs(t, w, 2*n-1, n, api.World{}, api.ErrDone)
	askIs(t, w, 2*n, n, api.World{}, api.ErrFull)
	askIs(t, w, 2*n, n+1, world(n, held, append(queue, 2*n)), api.ErrWait)
	backIs(t, w, 0, world(n, append(held[1:], n), queue[1:]), n, api.OK)
}
