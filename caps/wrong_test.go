package caps_test

import (
	"math"
	"reflect"
	"strings"
	"sync"
	"testing"

	"sieveworks/api"
	"sieveworks/caps"
)

// right is a conf with as many filters, ups and bads as may be, made anew each time.
func right() api.Conf {
	c := api.Conf{Flights: 4, Conns: 4, Waits: 4, Timers: 4}
	for kind := api.SieveSet; kind <= api.SieveRetry; kind++ {
		c.Sieves = append(c.Sieves, api.Sieve{Kind: kind, N: 4, Key: "k", Text: "v"})
	}
	for range api.MaxUps {
		c.Ups = append(c.Ups, api.Up{Path: "/", Status: 200, Text: "yes", Fails: 1})
	}
	for range api.MaxBads {
		c.Bads = append(c.Bads, api.Bad{ID: 1, Filter: 2, Call: api.CallAsk, Do: api.DoFail, Text: "oh"})
	}
	return c
}

func wrongIs(t *testing.T, c api.Conf, want api.Errno, wantAt int) {
	t.Helper()
	if err, at := caps.Wrong(c); err != want || at != wantAt {
		t.Errorf("Wrong(%+v): %v, %d comes, not %v, %d", c, err, at, want, wantAt)
	}
}

// with is a right conf, changed.
func with(change func(c *api.Conf)) api.Conf {
	c := right()
	change(&c)
	return c
}

func TestF1WrongNothing(t *testing.T) {
	wrongIs(t, right(), api.OK, -1)
	wrongIs(t, api.Conf{Conns: 1}, api.OK, -1)
	wrongIs(t, api.Conf{Sieves: []api.Sieve{}, Ups: []api.Up{}, Bads: []api.Bad{}, Conns: 1}, api.OK, -1)
	wrongIs(t, api.Conf{}, api.ErrRange, -1)
}

// TestF1WrongMany: so many and no more, whatever they are, and whatever else is wrong.
func TestF1WrongMany(t *testing.T) {
	for n := range 3 * api.MaxBads {
		for _, odd := range []bool{false, true} {
			want := func(most int) api.Errno {
				switch {
				case n > most:
					return api.ErrMany
				case odd:
					return api.ErrRange
				}
				return api.OK
			}
			base := with(func(c *api.Conf) {
				if odd {
					c.Timers = -1
				}
			})
			c := base
			c.Sieves = make([]api.Sieve, n)
			for i := range c.Sieves {
				c.Sieves[i] = api.Sieve{Kind: api.SieveWild}
			}
			wrongIs(t, c, want(api.MaxSieves), -1)
			c = base
			c.Ups = make([]api.Up, n)
			for i := range c.Ups {
				c.Ups[i].Status = 200
			}
			wrongIs(t, c, want(api.MaxUps), -1)
			c = base
			c.Bads = make([]api.Bad, n)
			for i := range c.Bads {
				c.Bads[i].Call = api.CallAsk
			}
			wrongIs(t, c, want(api.MaxBads), -1)
		}
	}
	for _, n := range []int{1 << 16, 1<<16 + 1} {
		wrongIs(t, with(func(c *api.Conf) { c.Sieves = make([]api.Sieve, n) }), api.ErrMany, -1)
		wrongIs(t, with(func(c *api.Conf) { c.Ups = make([]api.Up, n) }), api.ErrMany, -1)
		wrongIs(t, with(func(c *api.Conf) { c.Bads = make([]api.Bad, n) }), api.ErrMany, -1)
	}
}

// TestF1WrongManyAheadOfAll: too many are told ahead of limits, and of what is wrong with any one.
func TestF1WrongManyAheadOfAll(t *testing.T) {
	for _, conns := range []int{-1, 0, 1, 5} {
		wrongIs(t, api.Conf{Sieves: make([]api.Sieve, 7), Conns: conns}, api.ErrMany, -1)
		wrongIs(t, api.Conf{Ups: make([]api.Up, 5), Sieves: make([]api.Sieve, 6), Conns: conns}, api.ErrMany, -1)
		wrongIs(t, api.Conf{Bads: make([]api.Bad, 9), Sieves: make([]api.Sieve, 6), Ups: make([]api.Up, 4), Conns: conns}, api.ErrMany, -1)
	}
}

// limits are the four limits of a conf, to be changed.
func limits(c *api.Conf) []*int { return []*int{&c.Flights, &c.Conns, &c.Waits, &c.Timers} }

func TestF1WrongLimits(t *testing.T) {
	const conns = 1
	for i := range 4 {
		for _, n := range append(numbers(), 10, 100) {
			want := api.OK
			if n < 0 || n > 4 || n == 0 && i == conns {
				want = api.ErrRange
			}
			wrongIs(t, with(func(c *api.Conf) { *limits(c)[i] = n }), want, -1)
			bare := api.Conf{Conns: 1}
			*limits(&bare)[i] = n
			wrongIs(t, bare, want, -1)
		}
	}
}

// TestF1WrongLimitsAheadOfLists: limits are told ahead of what is wrong with any one.
func TestF1WrongLimitsAheadOfLists(t *testing.T) {
	for i := range 4 {
		for _, n := range append(greats(), -1, 5) {
			c := api.Conf{Sieves: make([]api.Sieve, 6), Ups: make([]api.Up, 4), Bads: make([]api.Bad, 8), Conns: 1}
			*limits(&c)[i] = n
			wrongIs(t, c, api.ErrRange, -1)
		}
	}
	wrongIs(t, api.Conf{Sieves: make([]api.Sieve, 1)}, api.ErrRange, -1)
	wrongIs(t, api.Conf{Ups: make([]api.Up, 1)}, api.ErrRange, -1)
	wrongIs(t, api.Conf{Bads: make([]api.Bad, 1)}, api.ErrRange, -1)
}

// sieveErrs are filters, and what is wrong with each.
func sieveErrs() map[api.Sieve]api.Errno {
	l := map[api.Sieve]api.Errno{}
	for _, kind := range []int{api.SieveSet, api.SieveMark, api.SieveToken} {
		l[api.Sieve{Kind: kind, Key: "k"}] = api.OK
		l[api.Sieve{Kind: kind, Key: "abcdefgh", Text: strings.Repeat("v", 20), N: -1}] = api.OK
		l[api.Sieve{Kind: kind}] = api.ErrName
		l[api.Sieve{Kind: kind, Key: "K"}] = api.ErrName
		l[api.Sieve{Kind: kind, Key: "abcdefghi"}] = api.ErrName
		l[api.Sieve{Kind: kind, Key: "k", Text: "\n"}] = api.ErrName
		l[api.Sieve{Kind: kind, Key: "k", Text: strings.Repeat("v", 21)}] = api.ErrName
	}
	for kind, most := range map[int]int{api.SieveLimit: 40, api.SieveGate: 4, api.SieveRetry: 4, api.SieveWild: 7} {
		for _, n := range append(numbers(), most, most+1) {
			want := api.OK
			if n < 0 || n > most {
				want = api.ErrRange
			}
			l[api.Sieve{Kind: kind, N: n, Key: "K", Text: "\n"}] = want
		}
	}
	for _, kind := range others() {
		l[api.Sieve{Kind: kind, N: 1, Key: "k", Text: "v"}] = api.ErrKind
	}
	return l
}

// place is where something wrong is told: nowhere, if nothing is.
func place(err api.Errno, at int) int {
	if err == api.OK {
		return -1
	}
	return at
}

func TestF1WrongSieves(t *testing.T) {
	for s, want := range sieveErrs() {
		for i := range api.MaxSieves {
			wrongIs(t, with(func(c *api.Conf) { c.Sieves[i] = s }), want, place(want, i))
		}
		wrongIs(t, api.Conf{Sieves: []api.Sieve{s}, Conns: 1}, want, place(want, 0))
	}
}

// upIs tries an up at each place.
func upIs(t *testing.T, u api.Up, want api.Errno) {
	t.Helper()
	for i := range api.MaxUps {
		wrongIs(t, with(func(c *api.Conf) { c.Ups[i] = u }), want, place(want, i))
	}
	wrongIs(t, api.Conf{Ups: []api.Up{u}, Conns: 1}, want, place(want, 0))
}

func inside(n, least, most int) api.Errno {
	if n < least || n > most {
		return api.ErrRange
	}
	return api.OK
}

func TestF1WrongUpStatus(t *testing.T) {
	for _, n := range append(greats(), -100, -1, 0, 1, 98, 99, 100, 101, 200, 404, 500, 598, 599, 600, 601, 1000) {
		upIs(t, api.Up{Path: "/a", Status: n, Text: "x", Fails: 1}, inside(n, 100, 599))
	}
}

func TestF1WrongUpFails(t *testing.T) {
	for _, n := range numbers() {
		upIs(t, api.Up{Path: "/a", Status: 200, Text: "x", Fails: n}, inside(n, 0, 4))
	}
}

// TestF1WrongUpTexts: how many bytes there are counts, not which, nor how many letters they are.
func TestF1WrongUpTexts(t *testing.T) {
	for _, letter := range []string{"x", "\n", "\x00", "\xff", " ", "/", "ä", "→"} {
		for _, n := range []int{0, 1, 7, 8, 9, 10, 12, 13, 14, 19, 20, 21, 23, 24, 25, 26, 39, 40, 41, 42, 256, 1 << 16} {
			s := strings.Repeat(letter, n)
			upIs(t, api.Up{Path: "/a", Status: 200, Text: s}, inside(len(s), 0, 40))
			upIs(t, api.Up{Path: s, Status: 200, Text: "x"}, inside(len(s), 0, 24))
		}
	}
	upIs(t, api.Up{Path: strings.Repeat("/", 24), Status: 599, Text: strings.Repeat("x", 40), Fails: 4}, api.OK)
	upIs(t, api.Up{Status: 100}, api.OK)
}

// badIs tries a bad at each place.
func badIs(t *testing.T, b api.Bad, want api.Errno) {
	t.Helper()
	for i := range api.MaxBads {
		wrongIs(t, with(func(c *api.Conf) { c.Bads[i] = b }), want, place(want, i))
	}
	wrongIs(t, api.Conf{Bads: []api.Bad{b}, Conns: 1}, want, place(want, 0))
}

// TestF1WrongBadKinds: where Text is too long too, ErrKind is told.
func TestF1WrongBadKinds(t *testing.T) {
	for _, call := range calls() {
		for _, do := range append(calls(), -7, 9) {
			for _, n := range []int{0, 20, 21} {
				want := api.OK
				switch {
				case call < 1 || call > 4 || do < 0 || do > 6:
					want = api.ErrKind
				case n > 20:
					want = api.ErrMuch
				}
				badIs(t, api.Bad{Call: call, Do: do, Text: strings.Repeat("x", n)}, want)
			}
		}
	}
}

func TestF1WrongBadText(t *testing.T) {
	for _, letter := range []string{"x", "\n", "\x00", "\xff", "ä", "→"} {
		for _, n := range []int{0, 1, 6, 7, 10, 11, 19, 20, 21, 22, 24, 40, 256, 1 << 16} {
			want := api.OK
			if n*len(letter) > 20 {
				want = api.ErrMuch
			}
			badIs(t, api.Bad{Call: api.CallGive, Do: api.DoAgain, Text: strings.Repeat(letter, n)}, want)
		}
	}
}

// TestF1WrongBadAnywhere: there may be bads of asks and filters that never come.
func TestF1WrongBadAnywhere(t *testing.T) {
	for _, n := range append(numbers(), math.MinInt/2) {
		badIs(t, api.Bad{ID: n, Filter: n, Call: api.CallAsk}, api.OK)
		badIs(t, api.Bad{ID: n, Filter: -1, Call: api.CallGive, Do: api.DoAgain}, api.OK)
		badIs(t, api.Bad{ID: 0, Filter: n, Call: api.CallUp}, api.ErrKind)
	}
}

// TestF1WrongFirst: of several that are wrong the first one is told, with what is wrong with that one.
func TestF1WrongFirst(t *testing.T) {
	sieves := []struct {
		s   api.Sieve
		err api.Errno
	}{{api.Sieve{Kind: 8}, api.ErrKind}, {api.Sieve{Kind: api.SieveSet}, api.ErrName}, {api.Sieve{Kind: api.SieveGate, N: 5}, api.ErrRange}}
	for i := range api.MaxSieves {
		for j := i + 1; j < api.MaxSieves; j++ {
			for _, a := range sieves {
				for _, b := range sieves {
					wrongIs(t, with(func(c *api.Conf) { c.Sieves[i], c.Sieves[j] = a.s, b.s }), a.err, i)
				}
			}
		}
	}
	for i := range api.MaxUps {
		for j := i + 1; j < api.MaxUps; j++ {
			wrongIs(t, with(func(c *api.Conf) { c.Ups[i].Status, c.Ups[j].Fails = 600, 5 }), api.ErrRange, i)
			wrongIs(t, with(func(c *api.Conf) { c.Ups[i].Path, c.Ups[j].Status = strings.Repeat("/", 25), 99 }), api.ErrRange, i)
		}
	}
	for i := range api.MaxBads {
		for j := i + 1; j < api.MaxBads; j++ {
			wrongIs(t, with(func(c *api.Conf) { c.Bads[i].Call, c.Bads[j].Text = 5, strings.Repeat("x", 21) }), api.ErrKind, i)
			wrongIs(t, with(func(c *api.Conf) { c.Bads[i].Text, c.Bads[j].Call = strings.Repeat("x", 21), 5 }), api.ErrMuch, i)
			wrongIs(t, with(func(c *api.Conf) { c.Bads[i].Text, c.Bads[j].Do = strings.Repeat("x", 21), 7 }), api.ErrMuch, i)
		}
	}
}

// TestF1WrongListByList: filters are told ahead of ups, and these ahead of bads, wherever they stand.
func TestF1WrongListByList(t *testing.T) {
	for i := range api.MaxSieves {
		for j := range api.MaxUps {
			for k := range api.MaxBads {
				c := with(func(c *api.Conf) { c.Sieves[i].Kind, c.Ups[j].Status, c.Bads[k].Text = 0, 99, strings.Repeat("x", 21) })
				wrongIs(t, c, api.ErrKind, i)
				c.Sieves = right().Sieves
				wrongIs(t, c, api.ErrRange, j)
				c.Ups = right().Ups
				wrongIs(t, c, api.ErrMuch, k)
				c.Bads = right().Bads
				wrongIs(t, c, api.OK, -1)
			}
		}
	}
}

// behind is a right conf of half the lists, and the lists whole: what stands behind would be wrong, and nobody may touch it.
func behind() (api.Conf, api.Conf) {
	whole := right()
	for i := 3; i < len(whole.Sieves); i++ {
		whole.Sieves[i] = api.Sieve{Kind: 99, N: i}
	}
	for i := 2; i < len(whole.Ups); i++ {
		whole.Ups[i] = api.Up{Status: -i}
	}
	for i := 4; i < len(whole.Bads); i++ {
		whole.Bads[i] = api.Bad{Call: 99, Do: i}
	}
	c := whole
	c.Sieves, c.Ups, c.Bads = whole.Sieves[:3], whole.Ups[:2], whole.Bads[:4]
	return c, whole
}

// TestF1OnlyReads: what was handed in, and the spare room behind it, is as it was, and not looked at (Z2).
func TestF1OnlyReads(t *testing.T) {
	for name, change := range map[string]func(c *api.Conf){
		"right":  func(c *api.Conf) {},
		"many":   func(c *api.Conf) { c.Ups = make([]api.Up, 5, 9) },
		"limits": func(c *api.Conf) { c.Conns = 0 },
		"sieve":  func(c *api.Conf) { c.Sieves[2].Kind = 0 },
		"up":     func(c *api.Conf) { c.Ups[1].Fails = 5 },
		"bad":    func(c *api.Conf) { c.Bads[3].Do = 7 },
	} {
		c, whole := behind()
		change(&c)
		same, sameWhole := behind()
		change(&same)
		err, at := caps.Wrong(c)
		for i := range whole.Sieves {
			caps.Of(whole.Sieves[i])
			caps.Can(whole.Sieves[i], i)
		}
		if !reflect.DeepEqual(c, same) || !reflect.DeepEqual(whole, sameWhole) {
			t.Errorf("%s: a change shows: %+v, %+v", name, c, whole)
		}
		if name == "right" && (err != api.OK || at != -1) {
			t.Errorf("what stands behind is looked at: %v, %d", err, at)
		}
	}
}

// TestF1NothingIsKept: a conf that is changed between calls is looked at anew.
func TestF1NothingIsKept(t *testing.T) {
	c := right()
	for range 3 {
		wrongIs(t, c, api.OK, -1)
		c.Sieves[5].N = 5
		wrongIs(t, c, api.ErrRange, 5)
		c.Sieves[5].N = 4
		c.Bads[7].Call = 0
		wrongIs(t, c, api.ErrKind, 7)
		c.Bads[7].Call = 4
	}
}

// TestF1AtOnce: calls may share what they are handed, for they only read it.
func TestF1AtOnce(t *testing.T) {
	c := right()
	var all sync.WaitGroup
	for i := range 50 {
		all.Go(func() {
			if err, at := caps.Wrong(c); err != api.OK || at != -1 {
				t.Errorf("%v, %d comes", err, at)
			}
			caps.Can(c.Sieves[i%6], i%5)
		})
	}
	all.Wait()
	if !reflect.DeepEqual(c, right()) {
		t.Errorf("%+v is left", c)
	}
}

// TestF1WrongByNumbers: the same in the numbers that stand in package api, written out.
func TestF1WrongByNumbers(t *testing.T) {
	for i, x := range []struct {
		change func(c *api.Conf)
		err    api.Errno
		at     int
	}{
		{func(c *api.Conf) {}, 0, -1},
		{func(c *api.Conf) { c.Sieves = append(c.Sieves, api.Sieve{Kind: 7}) }, 5, -1},
		{func(c *api.Conf) { c.Ups = append(c.Ups, api.Up{Status: 200}) }, 5, -1},
		{func(c *api.Conf) { c.Bads = append(c.Bads, api.Bad{Call: 1}) }, 5, -1},
		{func(c *api.Conf) { c.Flights = 5 }, 3, -1},
		{func(c *api.Conf) { c.Flights = 0 }, 0, -1},
		{func(c *api.Conf) { c.Conns = 0 }, 3, -1},
		{func(c *api.Conf) { c.Conns = 1 }, 0, -1},
		{func(c *api.Conf) { c.Waits = -1 }, 3, -1},
		{func(c *api.Conf) { c.Waits = 0 }, 0, -1},
		{func(c *api.Conf) { c.Timers = 5 }, 3, -1},
		{func(c *api.Conf) { c.Timers = 0 }, 0, -1},
		{func(c *api.Conf) { c.Sieves[2].Key = "" }, 7, 2},
		{func(c *api.Conf) { c.Sieves[4].N = 5 }, 3, 4},
		{func(c *api.Conf) { c.Sieves[0].Kind = 8 }, 1, 0},
		{func(c *api.Conf) { c.Ups[3].Status = 600 }, 3, 3},
		{func(c *api.Conf) { c.Ups[1].Fails = -1 }, 3, 1},
		{func(c *api.Conf) { c.Ups[2].Text = strings.Repeat("x", 41) }, 3, 2},
		{func(c *api.Conf) { c.Ups[0].Path = strings.Repeat("x", 25) }, 3, 0},
		{func(c *api.Conf) { c.Bads[7].Call = 5 }, 1, 7},
		{func(c *api.Conf) { c.Bads[6].Do = 7 }, 1, 6},
		{func(c *api.Conf) { c.Bads[0].Text = strings.Repeat("x", 21) }, 4, 0},
	} {
		c := right()
		x.change(&c)
		if err, at := caps.Wrong(c); err != x.err || at != x.at {
			t.Errorf("%d: %v, %d comes, not %v, %d", i, err, at, x.err, x.at)
		}
	}
}
