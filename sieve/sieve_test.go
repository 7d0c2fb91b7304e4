package sieve_test

import (
	"math"
	"reflect"
	"strings"
	"sync"
	"testing"

	"sieveworks/api"
	"sieveworks/msg"
	"sieveworks/sieve"
)

// heads makes so many right heads, each with another key, `ka` first.
func heads(n int) []api.Head {
	var l []api.Head
	for i := range n {
		l = append(l, api.Head{Key: "k" + string([]byte{byte('a' + i)}), Text: "v"})
	}
	return l
}

func ask(body string, l ...api.Head) api.Msg {
	return api.Msg{Path: "/a", Heads: l, Body: []byte(body)}
}

func say(status int, l ...api.Head) api.Msg {
	return api.Msg{Status: status, Heads: l, Body: []byte("said")}
}

// askIs looks at all three that Ask answers.
func askIs(t *testing.T, s api.Sieve, m api.Msg, gate int, do int, x api.Msg, then int) {
	t.Helper()
	if d, y, g := sieve.Ask(s, m, gate); d != do || !msg.Same(y, x) || g != then {
		t.Errorf("Ask(%+v, %v, %d): %d, %v, %d comes, not %d, %v, %d", s, m, gate, d, y, g, do, x, then)
	}
}

func answerIs(t *testing.T, s api.Sieve, m api.Msg, again int, do int, x api.Msg) {
	t.Helper()
	if d, y := sieve.Answer(s, m, again); d != do || !msg.Same(y, x) {
		t.Errorf("Answer(%+v, %v, %d): %d, %v comes, not %d, %v", s, m, again, d, y, do, x)
	}
}

// change is what Set must make of heads.
type change struct {
	name        string
	ahead, then []api.Head
}

// changes are those of Set of `kf`, `new`: without heads, with that one, with others, with as many as may be, and beyond.
func changes() []change {
	last := heads(api.MaxHeads)
	last[api.MaxHeads-1].Text = "new"
	return []change{
		{"no heads", nil, []api.Head{{Key: "kf", Text: "new"}}},
		{"that one", []api.Head{{Key: "kf", Text: "v"}}, []api.Head{{Key: "kf", Text: "new"}}},
		{"that one, as it will be", []api.Head{{Key: "kf", Text: "new"}}, []api.Head{{Key: "kf", Text: "new"}}},
		{"that one, empty", []api.Head{{Key: "kf"}}, []api.Head{{Key: "kf", Text: "new"}}},
		{"another one", []api.Head{{Key: "k", Text: "v"}}, []api.Head{{Key: "k", Text: "v"}, {Key: "kf", Text: "new"}}},
		{"room for one", heads(api.MaxHeads - 1), last},
		{"full, with it", heads(api.MaxHeads), last},
		{"full of others", append(heads(api.MaxHeads-1), api.Head{Key: "z"}), append(heads(api.MaxHeads-1), api.Head{Key: "z"})},
		{"too many, with it", heads(api.MaxHeads + 2), append(append([]api.Head(nil), last...), heads(api.MaxHeads + 2)[api.MaxHeads:]...)},
		{"twice", []api.Head{{Key: "kf", Text: "1"}, {Key: "kf", Text: "2"}}, []api.Head{{Key: "kf", Text: "new"}, {Key: "kf", Text: "2"}}},
		{"like it", []api.Head{{Key: "KF"}, {Key: "kff"}, {}}, []api.Head{{Key: "KF"}, {Key: "kff"}, {}, {Key: "kf", Text: "new"}}},
	}
}

func TestE2Set(t *testing.T) {
	s := api.Sieve{Kind: api.SieveSet, Key: "kf", Text: "new"}
	for _, c := range changes() {
		t.Run(c.name, func(t *testing.T) {
			askIs(t, s, ask("body", c.ahead...), 3, api.DoNext, ask("body", c.then...), 3)
			answerIs(t, s, say(503, c.ahead...), 0, api.DoNext, say(503, c.ahead...))
		})
	}
	for _, h := range []api.Head{{}, {Key: "K"}, {Key: "k", Text: "a\nb"}, {Key: "k=", Text: strings.Repeat("=", 99)}} {
		askIs(t, api.Sieve{Kind: api.SieveSet, Key: h.Key, Text: h.Text}, ask(""), -1, api.DoNext, ask("", h), -1)
	}
}

func TestE2Mark(t *testing.T) {
	s := api.Sieve{Kind: api.SieveMark, Key: "kf", Text: "new"}
	for _, c := range changes() {
		t.Run(c.name, func(t *testing.T) {
			answerIs(t, s, say(200, c.ahead...), 0, api.DoNext, say(200, c.then...))
			answerIs(t, s, say(599, c.ahead...), math.MinInt, api.DoNext, say(599, c.then...))
			askIs(t, s, ask("body", c.ahead...), 0, api.DoNext, ask("body", c.ahead...), 0)
		})
	}
	for _, h := range []api.Head{{}, {Key: "K"}, {Key: "k", Text: "a\nb"}, {Key: "k=", Text: strings.Repeat("=", 99)}} {
		answerIs(t, api.Sieve{Kind: api.SieveMark, Key: h.Key, Text: h.Text}, say(404), 0, api.DoNext, say(404, h))
	}
}

func TestE2Token(t *testing.T) {
	no := api.Msg{Status: 401, Body: []byte("token")}
	for i, c := range []struct {
		text  string
		heads []api.Head
		pass  bool
	}{
		{"v", []api.Head{{Key: "k", Text: "v"}}, true},
		{"", []api.Head{{Key: "k"}}, true},
		{"v", append([]api.Head{{Key: "k", Text: "v"}}, heads(api.MaxHeads-1)...), true},
		{"v", append(heads(api.MaxHeads-1), api.Head{Key: "k", Text: "v"}), true},
		{"v", append(heads(2*api.MaxHeads), api.Head{Key: "k", Text: "v"}), true},
		{"v", []api.Head{{Key: "k", Text: "v"}, {Key: "k", Text: "w"}}, true},
		{"a\nb", []api.Head{{Key: "k", Text: "a\nb"}}, true},
		{"v", nil, false},
		{"", nil, false},
		{"", []api.Head{{Key: "K"}, {Key: "kk"}, {}}, false},
		{"v", heads(api.MaxHeads), false},
		{"v", []api.Head{{Key: "k"}}, false},
		{"v", []api.Head{{Key: "k", Text: "V"}}, false},
		{"v", []api.Head{{Key: "k", Text: "v "}}, false},
		{"v", []api.Head{{Key: "k", Text: "vv"}}, false},
		{"", []api.Head{{Key: "k", Text: "v"}}, false},
		{"vv", []api.Head{{Key: "k", Text: "v"}}, false},
		{"v", []api.Head{{Key: "k", Text: "w"}, {Key: "k", Text: "v"}}, false},
		{"k", []api.Head{{Key: "v", Text: "k"}}, false},
	} {
		s, m := api.Sieve{Kind: api.SieveToken, Key: "k", Text: c.text, N: i}, ask("body", c.heads...)
		if c.pass {
			askIs(t, s, m, i, api.DoNext, m, i)
		} else {
			askIs(t, s, m, i, api.DoStop, no, i)
		}
		answerIs(t, s, say(500, c.heads...), 0, api.DoNext, say(500, c.heads...))
	}
}

func TestE2Limit(t *testing.T) {
	no := api.Msg{Status: 413, Body: []byte("limit")}
	for _, n := range append(greats(), -1, 0, 1, 2, 39, 40, 41, 99, 100) {
		for size := range 101 {
			s := api.Sieve{Kind: api.SieveLimit, N: n, Key: "k", Text: "v"}
			m := ask(strings.Repeat("\n", size), heads(size%7)...)
			if size > n {
				askIs(t, s, m, size, api.DoStop, no, size)
			} else {
				askIs(t, s, m, size, api.DoNext, m, size)
			}
			m.Path, m.Status = "", 500+size
			answerIs(t, s, m, 0, api.DoNext, m)
		}
	}
}

func TestE2Gate(t *testing.T) {
	no := api.Msg{Status: 429, Body: []byte("gate")}
	m := ask("body", api.Head{Key: "k", Text: "v"})
	numbers := append(greats(), -1, 0, 1, 2, 3, 4, 5)
	for _, n := range numbers {
		s := api.Sieve{Kind: api.SieveGate, N: n, Key: "k", Text: "w"}
		for _, gate := range append(numbers, n) {
			if gate >= n {
				askIs(t, s, m, gate, api.DoStop, no, gate)
			} else {
				askIs(t, s, m, gate, api.DoNext, m, gate+1)
			}
			answerIs(t, s, say(503), gate, api.DoNext, say(503))
		}
		if n > math.MinInt {
			askIs(t, s, m, n-1, api.DoNext, m, n)
		}
		if n < math.MaxInt {
			askIs(t, s, m, n+1, api.DoStop, no, n+1)
		}
	}
}

// TestE2GateCounts: so many and no more.
func TestE2GateCounts(t *testing.T) {
	for n := range api.MaxCount + 1 {
		gate, through := 0, 0
		for range 3 * api.MaxCount {
			var do int
			do, _, gate = sieve.Ask(api.Sieve{Kind: api.SieveGate, N: n}, ask(""), gate)
			if do == api.DoNext {
				through++
			}
		}
		if through != n || gate != n {
			t.Errorf("a gate of %d: %d go through, its count is %d", n, through, gate)
		}
	}
}

func TestE2Retry(t *testing.T) {
	numbers := append(greats(), -1, 0, 1, 2, 3, 4, 5)
	for _, n := range numbers {
		s := api.Sieve{Kind: api.SieveRetry, N: n, Key: "k", Text: "v"}
		for _, again := range append(numbers, n) {
			for _, status := range append(greats(), -500, -1, 0, 1, 99, 100, 200, 400, 498, 499, 500, 501, 503, 598, 599, 600) {
				m, do := say(status, heads(2)...), api.DoNext
				if status >= 500 && again < n {
					do = api.DoAgain
				}
				answerIs(t, s, m, again, do, m)
			}
			askIs(t, s, ask("body"), again, api.DoNext, ask("body"), again)
		}
		if n > math.MinInt {
			answerIs(t, s, say(500), n-1, api.DoAgain, say(500))
			answerIs(t, s, say(499), n-1, api.DoNext, say(499))
		}
		if n < math.MaxInt {
			answerIs(t, s, say(599), n+1, api.DoNext, say(599))
		}
	}
}

// odd are messages that are not right, beside some that are.
func odd() []api.Msg {
	return []api.Msg{
		{}, {Path: "/a"}, {Status: 200}, {Status: 599}, {Status: -1}, {Status: 600}, {Status: math.MaxInt},
		{Path: "a b"}, {Status: 500, Path: "/a"}, {Path: strings.Repeat("/", 999)},
		{Path: "/a", Heads: heads(api.MaxHeads), Body: make([]byte, api.MaxBody)},
		{Status: 503, Heads: heads(3 * api.MaxHeads), Body: make([]byte, 10*api.MaxBody)},
		{Heads: []api.Head{{}, {}, {Key: "\n", Text: "\n"}, {Key: "k"}, {Key: "k"}}, Body: []byte("\x00\xff")},
		{Path: "/a", Heads: []api.Head{}, Body: []byte{}},
	}
}

// TestE2Others: wild filters, and kinds that there are not, let all of it go on.
func TestE2Others(t *testing.T) {
	kinds := append(others(), api.SieveWild)
	for _, kind := range kinds {
		for _, n := range append(greats(), -1, 0, 1, 2, 3, 4, 5, 6, 7, 8) {
			for _, m := range odd() {
				s := api.Sieve{Kind: kind, N: n, Key: "k", Text: "v"}
				askIs(t, s, m, n, api.DoNext, m, n)
				askIs(t, s, m, 3, api.DoNext, m, 3)
				answerIs(t, s, m, n, api.DoNext, m)
				answerIs(t, s, m, -1, api.DoNext, m)
			}
		}
	}
}

// sieves are filters of each kind, and beside these, right ones and wrong ones.
func sieves() []api.Sieve {
	var l []api.Sieve
	for _, kind := range append(others(), 1, 2, 3, 4, 5, 6, 7) {
		for _, n := range []int{math.MinInt, -1, 0, 1, 2, 3, 4, 5, 6, 7, 8, 40, 41, math.MaxInt} {
			for _, h := range []api.Head{{}, {Key: "k"}, {Key: "ka", Text: "v"}, {Key: "ka", Text: "w"}, {Key: "new", Text: "v"}, {Key: "K\n", Text: "\n"}} {
				l = append(l, api.Sieve{Kind: kind, N: n, Key: h.Key, Text: h.Text})
			}
		}
	}
	return l
}

// TestE2OddMessages: what is answered is right in its form, whatever is handed in.
func TestE2OddMessages(t *testing.T) {
	for _, s := range sieves() {
		for _, m := range odd() {
			do, x, gate := sieve.Ask(s, m, 3)
			switch {
			case do == api.DoStop && msg.Wrong(x) == api.OK && x.Status >= 400 && gate == 3:
			case do == api.DoNext && x.Status == m.Status && x.Path == m.Path && string(x.Body) == string(m.Body) && (gate == 3 || s.Kind == api.SieveGate && gate == 4):
			default:
				t.Errorf("Ask(%+v, %v, 3): %d, %v, %d comes", s, m, do, x, gate)
			}
			do, x = sieve.Answer(s, m, 3)
			if do != api.DoNext && do != api.DoAgain || x.Status != m.Status || x.Path != m.Path || string(x.Body) != string(m.Body) {
				t.Errorf("Answer(%+v, %v, 3): %d, %v comes", s, m, do, x)
			}
		}
	}
}

// roomy is a message with spare room behind its lists, and something in there that nobody may touch.
func roomy(status, n int) (api.Msg, []api.Head, []byte) {
	behind := append(heads(n), api.Head{Key: "spare", Text: "room"}, api.Head{Key: "more", Text: "of it"})
	body := []byte("bodyspare")
	return api.Msg{Status: status, Path: "/a", Heads: behind[:n], Body: body[:4]}, behind, body
}

// scribble changes all of a message's lists, and the spare room behind them.
func scribble(m api.Msg) {
	for i := range m.Heads[:cap(m.Heads)] {
		m.Heads[:cap(m.Heads)][i] = api.Head{Key: "x", Text: "x"}
	}
	for i := range m.Body[:cap(m.Body)] {
		m.Body[:cap(m.Body)][i] = 'X'
	}
}

// TestE2OnlyReads: what was handed in, and the spare room behind it, is as it was, whatever becomes of the answer (Z2).
func TestE2OnlyReads(t *testing.T) {
	for _, s := range sieves() {
		for _, n := range []int{0, 1, 2, api.MaxHeads - 1, api.MaxHeads, api.MaxHeads + 1} {
			m, behind, body := roomy(503, n)
			look := func(x api.Msg) {
				t.Helper()
				scribble(x)
				if want, wantBehind, wantBody := roomy(503, n); !reflect.DeepEqual(m, want) || !reflect.DeepEqual(behind, wantBehind) || string(body) != string(wantBody) {
					t.Fatalf("%+v, %d heads: a change shows: %v, %v, %q", s, n, m, behind, body)
				}
			}
			_, x, _ := sieve.Ask(s, m, 1)
			look(x)
			_, x = sieve.Answer(s, m, 1)
			look(x)
		}
	}
}

// TestE2NothingIsKept: what is answered stays as it is when what was handed in is changed, and the next call knows nothing of this one.
func TestE2NothingIsKept(t *testing.T) {
	for _, s := range sieves() {
		m, _, _ := roomy(503, 2)
		do, x, gate := sieve.Ask(s, m, 1)
		told, y := sieve.Answer(s, m, 1)
		scribble(m)
		m, _, _ = roomy(503, 2)
		askIs(t, s, m, 1, do, x, gate)
		answerIs(t, s, m, 1, told, y)
	}
}

// TestE2NoLists: nil and a list without entries are the same (Z3).
func TestE2NoLists(t *testing.T) {
	for _, s := range sieves() {
		for _, status := range []int{0, 200, 503} {
			do, x, gate := sieve.Ask(s, api.Msg{Status: status}, 2)
			askIs(t, s, api.Msg{Status: status, Heads: []api.Head{}, Body: []byte{}}, 2, do, x, gate)
			do, x = sieve.Answer(s, api.Msg{Status: status}, 2)
			answerIs(t, s, api.Msg{Status: status, Heads: []api.Head{}, Body: []byte{}}, 2, do, x)
		}
	}
}

// TestE2AtOnce: filters may share what they are handed, for they only read it.
func TestE2AtOnce(t *testing.T) {
	m, _, _ := roomy(503, 3)
	var all sync.WaitGroup
	for _, s := range sieves() {
		all.Go(func() {
			_, x, _ := sieve.Ask(s, m, 1)
			_, y := sieve.Answer(s, m, 1)
			scribble(x)
			scribble(y)
		})
	}
	all.Wait()
	if want, _, _ := roomy(503, 3); !reflect.DeepEqual(m, want) {
		t.Errorf("%v is left", m)
	}
}

// TestE2ByNumbers: the same in the numbers that stand in package api, written out.
func TestE2ByNumbers(t *testing.T) {
	m := ask("body", api.Head{Key: "k", Text: "v"})
	askIs(t, api.Sieve{Kind: 1, Key: "q", Text: "w"}, m, 3, 0, ask("body", api.Head{Key: "k", Text: "v"}, api.Head{Key: "q", Text: "w"}), 3)
	askIs(t, api.Sieve{Kind: 2, Key: "q", Text: "w"}, m, 3, 0, m, 3)
	askIs(t, api.Sieve{Kind: 3, Key: "k", Text: "v"}, m, 3, 0, m, 3)
	askIs(t, api.Sieve{Kind: 3, Key: "k", Text: "w"}, m, 3, 1, msg.Answer(401, "token"), 3)
	askIs(t, api.Sieve{Kind: 4, N: 4}, m, 3, 0, m, 3)
	askIs(t, api.Sieve{Kind: 4, N: 3}, m, 3, 1, msg.Answer(413, "limit"), 3)
	askIs(t, api.Sieve{Kind: 5, N: 2}, m, 1, 0, m, 2)
	askIs(t, api.Sieve{Kind: 5, N: 2}, m, 2, 1, msg.Answer(429, "gate"), 2)
	answerIs(t, api.Sieve{Kind: 2, Key: "q", Text: "w"}, say(200), 0, 0, say(200, api.Head{Key: "q", Text: "w"}))
	answerIs(t, api.Sieve{Kind: 6, N: 1}, say(500), 0, 6, say(500))
	answerIs(t, api.Sieve{Kind: 6, N: 1}, say(500), 1, 0, say(500))
	answerIs(t, api.Sieve{Kind: 6, N: 1}, say(499), 0, 0, say(499))
	answerIs(t, api.Sieve{Kind: 7, N: 7}, say(500), 0, 0, say(500))
}
