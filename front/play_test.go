package front_test

import (
	"fmt"
	"math"
	"math/rand/v2"
	"slices"
	"strings"
	"testing"

	"sieveworks/api"
	"sieveworks/caps"
	"sieveworks/front"
	"sieveworks/msg"
	"sieveworks/server"
)

func comes(m api.Msg) api.Step { return api.Step{Kind: api.StepAsk, Msg: m} }
func asks(path string) api.Step {
	return comes(api.Msg{Path: path, Heads: []api.Head{{Key: "k", Text: "v"}}, Body: []byte("abc")})
}
func goes(n int) api.Step   { return api.Step{Kind: api.StepGo, N: n} }
func ticks() api.Step       { return api.Step{Kind: api.StepTick} }
func wild(n int) api.Sieve  { return api.Sieve{Kind: api.SieveWild, N: n} }
func retry(n int) api.Sieve { return api.Sieve{Kind: api.SieveRetry, N: n} }

// told is the same of two values just if they are the same; nil and a list without entries are.
func told(x any) string { return fmt.Sprintf("%+v", x) }

// conf has these filters, one who says yes, and room for some of all.
func conf(l ...api.Sieve) api.Conf {
	return api.Conf{Sieves: l, Ups: []api.Up{{Path: "/", Status: 200, Text: "yes"}}, Flights: 4, Conns: 1, Waits: 4, Timers: 4}
}

// confs are right ones, from the smallest one to one that is full.
func confs() []api.Conf {
	full := api.Conf{Flights: 4, Conns: 1, Waits: 2, Timers: 4}
	for kind := api.SieveSet; kind <= api.SieveRetry; kind++ {
		full.Sieves = append(full.Sieves, api.Sieve{Kind: kind, N: 4, Key: "k", Text: "v"})
	}
	for n := range api.MaxUps {
		full.Ups = append(full.Ups, api.Up{Path: []string{"/a", "/b", "/c", "/"}[n], Status: 200 + 100*n, Text: "up", Fails: n})
	}
	for n := range api.MaxBads {
		full.Bads = append(full.Bads, api.Bad{ID: n % 4, Filter: n % 6, Call: 1 + n%4, Do: n % 7, Text: "oh"})
	}
	return []api.Conf{{Conns: 1}, {Sieves: []api.Sieve{}, Ups: []api.Up{}, Bads: []api.Bad{}, Conns: 1, Flights: 1}, conf(), conf(wild(7), retry(2), wild(5)), full}
}

// played has Play play steps of a conf that must be right.
func played(t *testing.T, c api.Conf, table bool, l ...api.Step) api.Server {
	t.Helper()
	s, errs, err := front.Play(c, l, table)
	if err != api.OK || len(errs) != len(l) {
		t.Fatalf("%+v of %+v: %v, %v comes", l, c, errs, err)
	}
	return s
}

// isWrong: the error alone comes, by a table and without one.
func isWrong(t *testing.T, c api.Conf, l []api.Step, want api.Errno) {
	t.Helper()
	for _, table := range []bool{false, true} {
		s, errs, err := front.Play(c, l, table)
		if err != want || len(errs) != 0 || told(s) != told(api.Server{}) {
			t.Errorf("%d steps of %+v: %+v, %v, %v comes, not %v", len(l), c, s, errs, err, want)
		}
	}
}

// wrongConfs have each error that a conf may have, in each place where it may be.
func wrongConfs() map[api.Errno][]api.Conf {
	out := map[api.Errno][]api.Conf{}
	add := func(err api.Errno, change func(c *api.Conf)) {
		c := confs()[4]
		change(&c)
		out[err] = append(out[err], c)
	}
	add(api.ErrMany, func(c *api.Conf) { c.Sieves = append(c.Sieves, wild(0)) })
	add(api.ErrMany, func(c *api.Conf) { c.Ups = append(c.Ups, api.Up{Status: 200}) })
	add(api.ErrMany, func(c *api.Conf) { c.Bads = append(c.Bads, api.Bad{Call: 1}) })
	add(api.ErrRange, func(c *api.Conf) { *c = api.Conf{} })
	add(api.ErrRange, func(c *api.Conf) { c.Conns = 0 })
	for _, n := range []int{math.MinInt, -1, api.MaxCount + 1, 1<<32 + 1, math.MaxInt} {
		add(api.ErrRange, func(c *api.Conf) { c.Flights = n })
		add(api.ErrRange, func(c *api.Conf) { c.Conns = n })
		add(api.ErrRange, func(c *api.Conf) { c.Waits = n })
		add(api.ErrRange, func(c *api.Conf) { c.Timers = n })
		add(api.ErrRange, func(c *api.Conf) { c.Sieves[5].N = n })
		add(api.ErrRange, func(c *api.Conf) { c.Ups[3].Fails = n })
		add(api.ErrRange, func(c *api.Conf) { c.Ups[0].Status = n })
		add(api.ErrKind, func(c *api.Conf) { c.Bads[7].Call = n })
	}
	add(api.ErrRange, func(c *api.Conf) { c.Ups[3].Text = strings.Repeat("x", api.MaxBody+1) })
	add(api.ErrRange, func(c *api.Conf) { c.Ups[3].Path = strings.Repeat("/", api.MaxPath+1) })
	add(api.ErrName, func(c *api.Conf) { c.Sieves[0].Key = "" })
	add(api.ErrName, func(c *api.Conf) { c.Sieves[2].Text = "\n" })
	add(api.ErrKind, func(c *api.Conf) { c.Sieves[5].Kind = 8 })
	add(api.ErrKind, func(c *api.Conf) { c.Bads[0].Do = api.DoAgain + 1 })
	add(api.ErrMuch, func(c *api.Conf) { c.Bads[7].Text = strings.Repeat("x", api.MaxLine+1) })
	return out
}

// TestK1PlayWrongConf: what is wrong with the conf is told whatever the steps are, be they too many.
func TestK1PlayWrongConf(t *testing.T) {
	for want, l := range wrongConfs() {
		for _, c := range l {
			if err, _ := caps.Wrong(c); err != want {
				t.Errorf("%v is wrong with %+v, not %v", err, c, want)
			}
			for _, steps := range [][]api.Step{nil, {}, {asks("/a"), goes(0), {}}, make([]api.Step, api.MaxSteps), make([]api.Step, api.MaxSteps+1)} {
				isWrong(t, c, steps, want)
			}
		}
	}
}

// TestK1PlayNoSteps: the server is new.
func TestK1PlayNoSteps(t *testing.T) {
	for _, c := range confs() {
		want, _ := server.New(c)
		for _, table := range []bool{false, true} {
			for _, l := range [][]api.Step{nil, {}} {
				s, errs, err := front.Play(c, l, table)
				if err != api.OK || len(errs) != 0 || told(s) != told(want) {
					t.Errorf("%+v: %+v, %v, %v comes", c, s, errs, err)
				}
			}
		}
	}
}

// TestK1PlayMany: MaxSteps are played, the last one too; one more, and none is.
func TestK1PlayMany(t *testing.T) {
	for _, c := range confs() {
		for _, step := range []api.Step{asks("/a"), goes(0), {Kind: -1}, ticks()} {
			for _, n := range []int{api.MaxSteps + 1, api.MaxSteps + 2, 10 * api.MaxSteps} {
				isWrong(t, c, slices.Repeat([]api.Step{step}, n), api.ErrMany)
			}
		}
		for _, n := range []int{1, 2, api.MaxSteps - 1, api.MaxSteps} {
			l := slices.Repeat([]api.Step{asks("/a")}, n)
			if s := played(t, c, n%2 == 0, l...); len(s.Flights) != n || s.Flights[n-1].ID != n-1 {
				t.Errorf("%d of %+v: %+v comes", n, c, s)
			}
			l[n-1] = api.Step{Kind: 4}
			want := make([]api.Errno, n)
			want[n-1] = api.ErrKind
			if s, errs, err := front.Play(c, l, n%2 == 0); err != api.OK || len(s.Flights) != n-1 || !slices.Equal(errs, want) {
				t.Errorf("%d of %+v: %+v, %v, %v comes", n, c, s, errs, err)
			}
		}
	}
}

// TestK1PlayErrors: each step's error stands in its place, and what comes behind an error is played all the same.
func TestK1PlayErrors(t *testing.T) {
	l := []struct {
		step api.Step
		want api.Errno
	}{
		{goes(0), api.ErrNone}, {asks("/a"), api.OK}, {asks("x"), api.ErrForm}, {comes(msg.Answer(200, "yes")), api.ErrForm}, {asks("/b"), api.OK}, {goes(0), api.OK},
		{goes(1), api.OK}, {goes(1), api.ErrWait}, {goes(2), api.ErrNone}, {goes(-1), api.ErrNone}, {api.Step{}, api.ErrKind}, {api.Step{Kind: 4}, api.ErrKind}, {ticks(), api.OK},
		{asks("/c"), api.OK}, {asks("/d"), api.OK}, {goes(3), api.ErrDone}, {goes(2), api.ErrDone}, {goes(0), api.OK}, {goes(0), api.OK}, {goes(0), api.ErrDone}, {goes(1), api.OK}, {comes(api.Msg{}), api.ErrForm}, {goes(1), api.OK}, {goes(1), api.ErrDone},
	}
	c := conf()
	c.Flights, c.Waits = 2, 1
	var steps []api.Step
	var want []api.Errno
	for _, x := range l {
		steps, want = append(steps, x.step), append(want, x.want)
	}
	for n := range len(steps) + 1 {
		for _, table := range []bool{false, true} {
			s, errs, err := front.Play(c, steps[:n], table)
			if err != api.OK || !slices.Equal(errs, want[:n]) {
				t.Errorf("%d: %v, %v comes, not %v", n, errs, err, want[:n])
			}
			if n == len(steps) && told(front.Answers(s)) != told([]api.Msg{msg.Answer(200, "yes"), msg.Answer(200, "yes"), msg.Answer(503, "overload"), msg.Answer(503, "overload")}) {
				t.Errorf("%+v comes", s)
			}
		}
	}
}

// TestK1PlayGreat: numbers of asks and kinds of steps that there are not, and fields that a kind has not.
func TestK1PlayGreat(t *testing.T) {
	for _, n := range []int{math.MinInt, math.MinInt + 1, -1 << 32, -257, -2, -1, 4, 5, 257, 258, 1 << 31, 1 << 32, 1<<32 + 1, 1<<32 + 2, math.MaxInt - 1, math.MaxInt} {
		for i, c := range confs() {
			s, errs, err := front.Play(c, []api.Step{goes(n), {Kind: n, Msg: api.Msg{Path: "/a"}}, {Kind: api.StepAsk, N: n, Msg: api.Msg{Path: "/b"}}, {Kind: api.StepTick, N: n, Msg: api.Msg{Status: n}}, goes(n)}, i%2 == 0)
			if err != api.OK || !slices.Equal(errs, []api.Errno{api.ErrNone, api.ErrKind, api.OK, api.OK, api.ErrNone}) || len(s.Flights) != 1 || s.Flights[0].Ask.Path != "/b" {
				t.Errorf("%d: %+v, %v, %v comes", n, s, errs, err)
			}
		}
	}
}

// anyConf is a right one, with bads that are likely to be met.
func anyConf(r *rand.Rand) api.Conf {
	c := api.Conf{Flights: r.IntN(api.MaxCount + 1), Conns: 1 + r.IntN(2), Waits: r.IntN(api.MaxCount), Timers: r.IntN(api.MaxCount + 1)}
	for range r.IntN(api.MaxSieves + 1) {
		s := api.Sieve{Kind: 1 + r.IntN(api.SieveWild), N: r.IntN(5), Key: "k", Text: []string{"v", "w"}[r.IntN(2)]}
		if s.Kind == api.SieveWild {
			s.N = r.IntN(8)
		}
		c.Sieves = append(c.Sieves, s)
	}
	for range r.IntN(api.MaxUps + 1) {
		c.Ups = append(c.Ups, api.Up{Path: []string{"/a", "/b", ""}[r.IntN(3)], Status: 100 + r.IntN(500), Text: "up", Fails: r.IntN(5)})
	}
	for range r.IntN(api.MaxBads + 1) {
		c.Bads = append(c.Bads, api.Bad{ID: r.IntN(6), Filter: r.IntN(len(c.Sieves)+1) - 1, Call: 1 + r.IntN(4), Do: r.IntN(7), Text: "oh"})
	}
	return c
}

// anySteps are of every kind, now and then wrong ones.
func anySteps(r *rand.Rand) []api.Step {
	var l []api.Step
	for range r.IntN(api.MaxSteps + 1) {
		switch n := r.IntN(40); {
		case n < 4:
			l = append(l, asks([]string{"/a", "/b/c", "/", "x"}[r.IntN(4)]))
		case n == 4:
			l = append(l, ticks())
		case n == 5:
			l = append(l, api.Step{Kind: r.IntN(8) - 2, N: r.IntN(5) - 2, Msg: msg.Answer(200, "")})
		default:
			l = append(l, goes(r.IntN(8)-1))
		}
	}
	return l
}

// TestK1PlayOfEvery holds what is played against steps that are taken one by one; all errors that steps have come.
func TestK1PlayOfEvery(t *testing.T) {
	r, seen := rand.New(rand.NewPCG(11, 1)), map[api.Errno]int{}
	for range 300 {
		c, l, table := anyConf(r), anySteps(r), r.IntN(2) == 0
		want, err := server.New(c)
		if err != api.OK {
			t.Fatalf("%v is wrong with %+v", err, c)
		}
		wantErrs := make([]api.Errno, len(l))
		for i, step := range l {
			want, wantErrs[i] = server.Do(want, step, table)
			seen[wantErrs[i]]++
		}
		for _, table := range []bool{false, true} {
			s, errs, err := front.Play(c, l, table)
			if err != api.OK || !slices.Equal(errs, wantErrs) || told(s) != told(want) {
				t.Fatalf("%+v of %+v:\n%+v, %v, %v comes, not\n%+v, %v", l, c, s, errs, err, want, wantErrs)
			}
		}
	}
	for _, err := range []api.Errno{api.OK, api.ErrKind, api.ErrForm, api.ErrNone, api.ErrDone, api.ErrWait} {
		if seen[err] == 0 {
			t.Errorf("%v never came", err)
		}
	}
}
