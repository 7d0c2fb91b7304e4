package flat_test

import (
	"math"
	"slices"
	"testing"

	"sieveworks/api"
	"sieveworks/caps"
	"sieveworks/flat"
)

// kinds are filters of every kind that there is, with what they can, in bits; wild ones can each thing that they may.
func kinds() ([]api.Sieve, []int) {
	l := []api.Sieve{
		{Kind: api.SieveSet, Key: "k", Text: "v"}, {Kind: api.SieveMark, Key: "k", Text: "v"}, {Kind: api.SieveToken, Key: "k", Text: "v"},
		{Kind: api.SieveLimit, N: 3}, {Kind: api.SieveGate, N: 2}, {Kind: api.SieveRetry, N: 2},
	}
	for n := range 8 {
		l = append(l, wild(n))
	}
	return l, []int{1, 2, 1, 1, 1, 2, 0, 1, 2, 3, 4, 5, 6, 7}
}

func wild(n int) api.Sieve { return api.Sieve{Kind: api.SieveWild, N: n} }

// conf has these filters, and room for some of all.
func conf(l ...api.Sieve) api.Conf {
	return api.Conf{Sieves: l, Ups: []api.Up{{Path: "/", Status: 200, Text: "yes"}}, Flights: 4, Conns: 1, Waits: 1, Timers: 2}
}

// wilds is a conf of filters that can those calls, in bits.
func wilds(bits ...int) api.Conf {
	var l []api.Sieve
	for _, n := range bits {
		l = append(l, wild(n))
	}
	return conf(l...)
}

// table is what filters are, laid flat, that can those calls, in bits: each entry is looked for by itself.
func table(bits ...int) api.Table {
	var t api.Table
	for _, n := range bits {
		t.Can[0] = append(t.Can[0], n%2 == 1)
		t.Can[1] = append(t.Can[1], n/2%2 == 1)
		t.Can[2] = append(t.Can[2], n/4%2 == 1)
	}
	for from := range len(bits) + 1 {
		next := from
		for next < len(bits) && bits[next]%2 == 0 {
			next++
		}
		t.Next = append(t.Next, next)
	}
	return t
}

// sameTable takes nil and a list without entries for the same.
func sameTable(a, b api.Table) bool {
	return slices.Equal(a.Can[0], b.Can[0]) && slices.Equal(a.Can[1], b.Can[1]) && slices.Equal(a.Can[2], b.Can[2]) && slices.Equal(a.Next, b.Next)
}

// layIs holds what Lay answers, of a right conf, against what must come.
func layIs(t *testing.T, c api.Conf, want api.Table) {
	t.Helper()
	if err, at := caps.Wrong(c); err != api.OK {
		t.Fatalf("%v at %d comes of %+v", err, at, c)
	}
	if got := flat.Lay(c); !sameTable(got, want) {
		t.Errorf("of %v: %+v comes, not %+v", c.Sieves, got, want)
	}
}

// byIs holds what is told of the table, of each filter and call and of some beside them, against bits.
func byIs(t *testing.T, tab api.Table, bits ...int) {
	t.Helper()
	can := flat.By(tab)
	for filter := -3; filter < len(bits)+3; filter++ {
		for call := -3; call < 9; call++ {
			want := filter >= 0 && filter < len(bits) && call >= 1 && call <= 3 && bits[filter]>>(call-1)&1 == 1
			if got := can(filter, call); got != want {
				t.Errorf("of %+v: filter %d, call %d: %v comes", tab, filter, call, got)
			}
		}
	}
}

// eachBits calls do for what n filters can, each of them whatever filters may.
func eachBits(n int, do func(bits []int)) {
	for all := range 1 << (3 * n) {
		bits := make([]int, n)
		for i := range n {
			bits[i] = all >> (3 * i) & 7
		}
		do(bits)
	}
}

func TestI1LayOfNone(t *testing.T) {
	layIs(t, conf(), api.Table{Next: []int{0}})
	layIs(t, api.Conf{Sieves: []api.Sieve{}, Conns: 1}, api.Table{Can: [3][]bool{{}, {}, {}}, Next: []int{0}})
}

// TestI1LayOfOne: one filter, of each kind that there is.
func TestI1LayOfOne(t *testing.T) {
	l, can := kinds()
	for i, s := range l {
		want := api.Table{Can: [3][]bool{{can[i]&1 != 0}, {can[i]&2 != 0}, {can[i]&4 != 0}}, Next: []int{1, 1}}
		if can[i]&1 != 0 {
			want.Next[0] = 0
		}
		layIs(t, conf(s), want)
	}
}

// TestI1LayByWords: tables that are written out.
func TestI1LayByWords(t *testing.T) {
	mark, gate := api.Sieve{Kind: api.SieveMark, Key: "k", Text: "v"}, api.Sieve{Kind: api.SieveGate, N: 1}
	const o, x = false, true
	layIs(t, conf(mark, gate), api.Table{Can: [3][]bool{{o, x}, {x, o}, {o, o}}, Next: []int{1, 1, 2}}) // the document's example 9
	layIs(t, conf(gate, mark), api.Table{Can: [3][]bool{{x, o}, {o, x}, {o, o}}, Next: []int{0, 2, 2}})
	layIs(t, conf(mark, mark), api.Table{Can: [3][]bool{{o, o}, {x, x}, {o, o}}, Next: []int{2, 2, 2}})
	layIs(t, conf(gate, gate), api.Table{Can: [3][]bool{{x, x}, {o, o}, {o, o}}, Next: []int{0, 1, 2}})
	layIs(t, conf(wild(5), mark, wild(0), wild(7), wild(4)), api.Table{
		Can: [3][]bool{{x, o, o, x, o}, {o, x, o, x, o}, {x, o, o, x, x}}, Next: []int{0, 3, 3, 3, 5, 5},
	})
}

// TestI1LayOfSome: none that can the call, the first one alone, the last one alone and all of them, of each call, and of as many as there may be.
func TestI1LayOfSome(t *testing.T) {
	for n := 1; n <= api.MaxSieves; n++ {
		for call := api.CallAsk; call <= api.CallClose; call++ {
			bit := 1 << (call - 1)
			for _, other := range []int{0, 7 &^ bit} {
				for only := -1; only <= n; only++ { // -1: none of them; n: all of them
					bits := make([]int, n)
					for i := range bits {
						bits[i] = other
						if i == only || only == n {
							bits[i] |= bit
						}
					}
					layIs(t, wilds(bits...), table(bits...))
					byIs(t, flat.Lay(wilds(bits...)), bits...)
				}
			}
		}
	}
}

// TestI1LayOfEvery: three filters, and less, that can each whatever filters may; and six of them, of any kind.
func TestI1LayOfEvery(t *testing.T) {
	for n := range 4 {
		eachBits(n, func(bits []int) {
			layIs(t, wilds(bits...), table(bits...))
			byIs(t, flat.Lay(wilds(bits...)), bits...)
		})
	}
	l, can := kinds()
	for first := range l {
		for by := range l {
			var sieves []api.Sieve
			var bits []int
			for i := range api.MaxSieves {
				at := (first + i*by) % len(l)
				sieves, bits = append(sieves, l[at]), append(bits, can[at])
			}
			layIs(t, conf(sieves...), table(bits...))
			byIs(t, flat.Lay(conf(sieves...)), bits...)
		}
	}
}

// TestI1LayOfFiltersAlone: nothing else that a conf has counts.
func TestI1LayOfFiltersAlone(t *testing.T) {
	bad := api.Bad{ID: 0, Filter: 1, Call: api.CallAsk, Do: api.DoPanic, Text: "oh"}
	up := api.Up{Path: "/a", Status: 404, Fails: 1}
	for _, c := range []api.Conf{
		{Conns: 1}, {Ups: []api.Up{up, up}, Conns: 4}, {Bads: []api.Bad{bad, bad}, Conns: 1}, {Flights: 4, Conns: 4, Waits: 4, Timers: 4},
	} {
		c.Sieves = wilds(2, 1, 6).Sieves
		layIs(t, c, table(2, 1, 6))
	}
}

// TestI1LayOfWrong: of confs that are not right nothing is said, but that the call ends; what is no filter can nothing.
func TestI1LayOfWrong(t *testing.T) {
	for _, kind := range []int{math.MinInt, -1, 0, 8, 1<<32 + 1, math.MaxInt} {
		c := conf(api.Sieve{Kind: kind, N: 7}, wild(1))
		if got := flat.Lay(c); !sameTable(got, table(0, 1)) {
			t.Errorf("of kind %d: %+v comes", kind, got)
		}
	}
	many := make([]int, 1<<16)
	for i := range many {
		many[i] = i * i % 8
	}
	if got := flat.Lay(wilds(many...)); len(got.Next) != len(many)+1 || got.Next[2] != 3 || got.Next[len(many)-1] != len(many)-1 || got.Next[len(many)] != len(many) {
		t.Errorf("of many filters: %v comes, of %d", got.Next[:4], len(got.Next))
	}
}

// TestI1ByOfNone: tables without entries, whatever their Next says.
func TestI1ByOfNone(t *testing.T) {
	for _, tab := range []api.Table{{}, {Can: [3][]bool{{}, {}, {}}}, {Next: []int{0}}, {Next: []int{0, 1, 2}}, flat.Lay(conf())} {
		byIs(t, tab)
	}
}

// TestI1ByCanAlone: Next may say otherwise than Can, be too short, too long, or not there.
func TestI1ByCanAlone(t *testing.T) {
	for n := range 3 {
		eachBits(n, func(bits []int) {
			for _, next := range [][]int{nil, {}, {0}, {0, 0, 0, 0}, {1, 2, 3, 3}, {2, 2, 2}, {-1, math.MinInt, math.MaxInt}, {9, 8, 7, 6, 5, 4, 3, 2, 1, 0}} {
				tab := table(bits...)
				tab.Next = next
				byIs(t, tab, bits...)
			}
		})
	}
}

// TestI1ByUneven: each call's filters are its own, be they more than another's, or less.
func TestI1ByUneven(t *testing.T) {
	const o, x = false, true
	for _, y := range []struct {
		can  [3][]bool
		bits []int
	}{
		{[3][]bool{{x}, nil, nil}, []int{1}}, {[3][]bool{nil, {x}, nil}, []int{2}}, {[3][]bool{nil, nil, {x}}, []int{4}},
		{[3][]bool{{x, o, x}, {x}, {o, x}}, []int{3, 4, 1}}, {[3][]bool{{}, {o, x}, {x, x, x}}, []int{4, 6, 4}},
		{[3][]bool{{o}, {o, o, o, x}, nil}, []int{0, 0, 0, 2}},
	} {
		byIs(t, api.Table{Can: y.can, Next: []int{0}}, y.bits...)
	}
}

// TestI1ByGreat: great numbers of filters and of calls, below and above what there is.
func TestI1ByGreat(t *testing.T) {
	great := []int{math.MinInt, math.MinInt + 1, math.MinInt + 2, math.MinInt + 3, -1 << 32, -1<<32 + 1, -1 << 31, -1<<31 + 1, -256, -255, 256, 257, 1 << 31, 1<<31 + 1, 1 << 32, 1<<32 + 1, 1<<32 + 2, math.MaxInt - 1, math.MaxInt}
	for _, bits := range [][]int{nil, {7}, {7, 7, 7, 7, 7, 7}} {
		can := flat.By(table(bits...))
		for _, n := range great {
			for i := -2; i < 9; i++ {
				if can(n, i) || can(i, n) {
					t.Errorf("of %v: %d and %d can something", bits, n, i)
				}
			}
			for _, m := range great {
				if can(n, m) {
					t.Errorf("of %v: %d can %d", bits, n, m)
				}
			}
		}
	}
}

// TestI1ByMany: a table of more filters than there may be.
func TestI1ByMany(t *testing.T) {
	many := make([]int, 5000)
	for i := range many {
		many[i] = i * i / 3 % 8
	}
	byIs(t, table(many...), many...)
}
