package chain_test

import (
	"math/rand/v2"
	"slices"
	"strings"
	"testing"

	"sieveworks/api"
	"sieveworks/caps"
	"sieveworks/chain"
	"sieveworks/fault"
	"sieveworks/guard"
	"sieveworks/ledger"
	"sieveworks/msg"
	"sieveworks/pool"
	"sieveworks/sieve"
)

// model goes through the chapter's words one by one; what came is counted by name in seen, so that nothing is left untried.
type model struct {
	c    api.Conf
	w    api.World
	f    api.Flight
	seen map[string]int
}

// called makes a call, and answers the bad that has it do otherwise, with what comes of that.
func (m *model) called(filter, call int) (bad *api.Bad, out api.Outcome) {
	m.w.Marks = append(m.w.Marks, api.Mark{ID: m.f.ID, Filter: filter, Call: call})
	for _, b := range m.c.Bads {
		if b.ID == m.f.ID && b.Filter == filter && b.Call == call {
			out = guard.Call(filter, call, b.Do, b.Text)
			m.seen["bad"+string(rune('0'+call))+string(rune('0'+b.Do))]++
			if g := out.Fault; g.Kind != 0 {
				m.f.Fatal = m.f.Fatal || g.Kind == api.FaultFatal
				if call == api.CallGive {
					g = api.Fault{Kind: api.FaultRelease, Filter: g.Filter, Call: g.Call, Text: g.Text, Inner: g.Kind}
				}
				m.f.Faults = append(m.f.Faults, g)
			}
			return &b, out
		}
	}
	return nil, out
}

func (m *model) goesOut(a api.Msg) {
	m.f.Phase, m.f.At, m.f.Msg = api.PhaseOut, len(m.f.Passed)-1, a
}

func (m *model) in() {
	at := m.f.At
	bad, out := m.called(at, api.CallAsk)
	if bad != nil && out.Fault.Kind != 0 {
		m.goesOut(fault.Answer(out.Fault))
		return
	}
	if bad != nil && out.Do == api.DoStop {
		m.goesOut(msg.Answer(200, bad.Text))
		return
	}
	if bad == nil {
		do, a, count := sieve.Ask(m.c.Sieves[at], m.f.Ask, m.w.Gates[at])
		m.w.Gates[at] = count
		if m.c.Sieves[at].Kind == api.SieveWild {
			l, err := ledger.Take(m.w.Ledger, m.f.ID, api.HoldTimer, at)
			m.seen["timer"+string(rune('0'+err))]++
			if err == api.OK {
				m.w.Ledger = l
			}
		}
		if do == api.DoStop {
			m.seen["stop"]++
			m.goesOut(a)
			return
		}
		m.f.Ask = a
	}
	m.f.Passed = append(m.f.Passed, at)
	m.f.At = at + 1
}

func (m *model) up() int {
	if h, ok := ledger.Last(m.w.Ledger, m.f.ID); !ok || h.Kind != api.HoldLease {
		w, err := pool.Ask(m.w, m.f.ID, m.c.Waits)
		m.seen["lease"+string(rune('0'+err))]++
		if err == api.OK || err == api.ErrWait {
			m.w, m.f.Waits = w, err == api.ErrWait
			return -1
		}
		m.w.Marks = append(m.w.Marks, api.Mark{ID: m.f.ID, Filter: -1, Call: api.CallUp})
		m.f.Faults = append(m.f.Faults, api.Fault{Kind: api.FaultNoUp, Filter: -1})
		m.goesOut(msg.Answer(504, "no upstream"))
		return -1
	}
	m.w.Marks = append(m.w.Marks, api.Mark{ID: m.f.ID, Filter: -1, Call: api.CallUp})
	found := false
	for i, u := range m.c.Ups {
		if found = strings.HasPrefix(m.f.Ask.Path, u.Path); found && m.w.Failed[i] < u.Fails {
			m.seen["failed"]++
			m.w.Failed[i]++
			m.f.Faults = append(m.f.Faults, api.Fault{Kind: api.FaultUp, Filter: -1})
			m.goesOut(msg.Answer(502, "upstream"))
		} else if found {
			m.goesOut(msg.Answer(u.Status, u.Text))
		}
		if found {
			break
		}
	}
	if !found {
		m.seen["nowhere"]++
		m.goesOut(msg.Answer(404, "nowhere"))
	}
	w, next, _ := pool.Back(m.w, m.f.ID)
	m.w = w
	if next >= 0 {
		m.seen["next"]++
	}
	return next
}

func (m *model) out() {
	filter, do := m.f.Passed[m.f.At], api.DoNext
	bad, out := m.called(filter, api.CallAnswer)
	switch {
	case bad == nil:
		do, m.f.Msg = sieve.Answer(m.c.Sieves[filter], m.f.Msg, m.f.Again[filter])
	case out.Fault.Kind != 0:
		m.f.Msg = fault.Answer(out.Fault)
	case out.Do == api.DoStop:
		m.f.Msg = msg.Answer(200, bad.Text)
	default:
		do = out.Do
	}
	if do == api.DoAgain && m.f.Again[filter] < api.MaxCount {
		m.seen["again"]++
		m.f.Again[filter]++
		m.f.Passed = m.f.Passed[:m.f.At+1]
		m.f.Phase, m.f.At, m.f.Msg = api.PhaseIn, filter+1, api.Msg{}
		return
	}
	if do == api.DoAgain {
		m.seen["too often"]++
	}
	m.f.At--
}

func (m *model) rests(can api.Can) {
	for m.f.Phase == api.PhaseIn && !(m.f.At < len(m.c.Sieves) && can(m.f.At, api.CallAsk)) {
		if m.f.At == len(m.c.Sieves) {
			m.f.Phase, m.f.At = api.PhaseUp, 0
		} else {
			m.f.Passed = append(m.f.Passed, m.f.At)
			m.f.At++
		}
	}
	for m.f.Phase == api.PhaseOut && !(m.f.At >= 0 && can(m.f.Passed[m.f.At], api.CallAnswer)) {
		if m.f.At--; m.f.At < 0 {
			m.f.Phase, m.f.At = api.PhaseClose, len(m.f.Passed)-1
		}
	}
	for m.f.Phase == api.PhaseClose && !(m.f.At >= 0 && can(m.f.Passed[m.f.At], api.CallClose)) {
		if m.f.At--; m.f.At < 0 {
			m.f.Phase, m.f.At = api.PhaseGive, 0
		}
	}
	if m.f.Phase == api.PhaseGive && len(ledger.All(m.w.Ledger, m.f.ID)) == 0 {
		m.f.Phase = api.PhaseDone
	}
}

// step is what By must answer.
func (m *model) step(can api.Can) (int, api.Errno) {
	m.w, m.f = deepWorld(m.w), deepFlight(m.f)
	if m.f.Phase == api.PhaseDone {
		m.seen["done"]++
		return -1, api.ErrDone
	}
	if m.f.Waits {
		m.seen["waits"]++
		return -1, api.ErrWait
	}
	next := -1
	switch m.f.Phase {
	case api.PhaseIn:
		m.in()
	case api.PhaseUp:
		next = m.up()
	case api.PhaseOut:
		m.out()
	case api.PhaseClose:
		m.called(m.f.Passed[m.f.At], api.CallClose)
		m.f.At--
	case api.PhaseGive:
		h, _ := ledger.Last(m.w.Ledger, m.f.ID)
		m.called(h.Filter, api.CallGive)
		m.w.Ledger, _ = ledger.Give(m.w.Ledger, m.f.ID, h.Kind)
	}
	m.rests(can)
	return next, api.OK
}

// anyConf is a right one, of a few filters, with bads that are likely to be met.
func anyConf(r *rand.Rand) api.Conf {
	c := api.Conf{Flights: 4, Conns: 1 + r.IntN(2), Waits: r.IntN(3), Timers: r.IntN(api.MaxCount + 1)}
	all := sieves()
	for range r.IntN(api.MaxSieves + 1) {
		c.Sieves = append(c.Sieves, all[r.IntN(len(all))])
	}
	paths := []string{"/a", "/ab", "/", "/b", ""}
	for range r.IntN(api.MaxUps + 1) {
		c.Ups = append(c.Ups, api.Up{Path: paths[r.IntN(len(paths))], Status: 100 + r.IntN(500), Text: "up", Fails: r.IntN(3)})
	}
	for range r.IntN(api.MaxBads + 1) {
		b := api.Bad{ID: r.IntN(5), Filter: r.IntN(max(len(c.Sieves), 1)), Call: 1 + r.IntN(4), Do: r.IntN(7), Text: "oh"}
		if b.Call == api.CallGive && r.IntN(2) == 0 {
			b.Filter = -1
		}
		c.Bads = append(c.Bads, b)
	}
	return c
}

// anyAsk may have the head that filters look for, and a body of any length.
func anyAsk(r *rand.Rand) api.Msg {
	m := api.Msg{Path: []string{"/a", "/abc", "/b/c", "/"}[r.IntN(4)], Body: []byte("forty of them are the most")[:r.IntN(6)]}
	if r.IntN(2) == 0 {
		m.Heads = []api.Head{{Key: "k", Text: "v"}}
	}
	return m
}

// play has asks of a conf go on in any turn, as a server would, until all are done, and calls do ahead of each step.
func play(t *testing.T, r *rand.Rand, do func(c api.Conf, w api.World, f api.Flight)) {
	c := anyConf(r)
	if err, _ := caps.Wrong(c); err != api.OK {
		t.Fatalf("%v comes of %+v", err, c)
	}
	w := world(c)
	var l []api.Flight
	for left, n := 4, 0; left > 0; n++ {
		if t.Failed() || n > 20000 { // one wrong step is enough to tell, and no ask may go on for ever
			t.Fatalf("%d of %+v are not done behind %d steps", left, c, n)
		}
		if r.IntN(40) == 0 {
			clear(w.Gates)
		}
		if id := len(l); id < 4 && r.IntN(4) == 0 {
			w = holding(w, id, api.HoldFlight, -1)
			l = append(l, chain.Start(c, w, api.Flight{ID: id, Ask: anyAsk(r)}, chain.Asked(c)))
		}
		if len(l) == 0 {
			continue
		}
		id := r.IntN(len(l))
		do(c, w, l[id])
		x, h, next, err := chain.Step(c, w, l[id])
		if err != api.OK {
			continue
		}
		w, l[id] = x, h
		if next >= 0 {
			l[next].Waits = false
		}
		if h.Phase == api.PhaseDone {
			left--
		}
	}
	for _, f := range l {
		if f.Msg.Status == 0 || f.Waits {
			t.Errorf("%+v is done", f)
		}
	}
	if len(w.Ledger.Holds) != 0 || len(w.Queue) != 0 {
		t.Errorf("%+v is left", w)
	}
}

// TestH4OfEvery holds steps against the chapter's words, gone through one by one; all asks are done at last, and nothing is held then.
func TestH4OfEvery(t *testing.T) {
	r, seen := rand.New(rand.NewPCG(8, 4)), map[string]int{}
	for range 1500 {
		play(t, r, func(c api.Conf, w api.World, f api.Flight) {
			m := model{c, w, f, seen}
			next, err := m.step(chain.Asked(c))
			stepIs(t, c, w, f, m.w, m.f, next, err)
			can := both(subsets(6)[r.IntN(64)], subsets(6)[r.IntN(64)])
			m = model{c, w, f, seen}
			next, err = m.step(can)
			byIs(t, c, w, f, can, m.w, m.f, next, err)
		})
	}
	want := []string{"timer0", "timer8", "stop", "lease0", "lease:", "lease8", "failed", "nowhere", "next", "again", "too often", "done", "waits"}
	for call := api.CallAsk; call <= api.CallGive; call++ {
		for do := api.DoNext; do <= api.DoAgain; do++ {
			want = append(want, "bad"+string(rune('0'+call))+string(rune('0'+do)))
		}
	}
	for _, x := range want {
		if seen[x] == 0 {
			t.Errorf("%s never came", x)
		}
	}
}

// TestH4MarksGrow: one mark a step at most, at the end; a step without one takes a lease, or waits.
func TestH4MarksGrow(t *testing.T) {
	r := rand.New(rand.NewPCG(8, 5))
	for range 100 {
		play(t, r, func(c api.Conf, w api.World, f api.Flight) {
			x, h, _, err := chain.Step(c, w, f)
			more := len(x.Marks) - len(w.Marks)
			quiet := err != api.OK || h.Waits || len(x.Ledger.Holds) > len(w.Ledger.Holds) && f.Phase == api.PhaseUp
			if !slices.Equal(x.Marks[:len(w.Marks)], w.Marks) || quiet && more != 0 || !quiet && (more != 1 || x.Marks[len(w.Marks)].ID != f.ID) {
				t.Errorf("of %+v: %v comes behind %v", f, x.Marks, w.Marks)
			}
		})
	}
}
