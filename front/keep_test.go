package front_test

import (
	"math/rand/v2"
	"reflect"
	"testing"

	"sieveworks/api"
	"sieveworks/front"
	"sieveworks/msg"
)

// behind is so many entries of spare room that each list is handed in with.
const behind = 3

// roomy copies a value, and puts something behind each of its lists that would count if it stood in them.
func roomy[T any](x T) T { return copied(reflect.ValueOf(x), behind).Interface().(T) }

// whole copies a value with all that stands in the spare room of its lists.
func whole[T any](x T) T { return copied(reflect.ValueOf(x), -1).Interface().(T) }

// copied has so many ones behind each list, or, if it is to have -1 of them, what was behind it in the list.
func copied(v reflect.Value, ones int) reflect.Value {
	out := reflect.New(v.Type()).Elem()
	switch v.Kind() {
	case reflect.Struct:
		for i := range v.NumField() {
			out.Field(i).Set(copied(v.Field(i), ones))
		}
	case reflect.Slice:
		if ones < 0 {
			v = v.Slice(0, v.Cap())
		}
		out.Set(reflect.MakeSlice(v.Type(), v.Len(), v.Len()+max(ones, 0)))
		for i := range v.Len() {
			out.Index(i).Set(copied(v.Index(i), ones))
		}
		for room := out.Slice(0, out.Cap()); ones > 0; ones-- {
			fill(room.Index(out.Cap()-ones), 1, "k")
		}
	default:
		out.Set(v)
	}
	return out
}

// fill sets all numbers and texts of a value, those in lists too, and those in the spare room behind these.
func fill(v reflect.Value, n int64, s string) {
	switch v.Kind() {
	case reflect.Struct:
		for i := range v.NumField() {
			fill(v.Field(i), n, s)
		}
	case reflect.Array:
		for i := range v.Len() {
			fill(v.Index(i), n, s)
		}
	case reflect.Slice:
		all := v.Slice(0, v.Cap())
		for i := range all.Len() {
			fill(all.Index(i), n, s)
		}
	case reflect.String:
		v.SetString(s)
	case reflect.Bool:
		v.SetBool(true)
	case reflect.Uint8:
		v.SetUint(uint64(n))
	default:
		v.SetInt(n)
	}
}

// scribble writes over all lists of a value, and over their spare room.
func scribble[T any](x T) { fill(reflect.ValueOf(&x).Elem(), 77, "scribbled") }

// span is where in memory a list lies, its spare room too.
type span struct{ from, to uintptr }

func spans(v reflect.Value) []span {
	var out []span
	switch v.Kind() {
	case reflect.Struct:
		for i := range v.NumField() {
			out = append(out, spans(v.Field(i))...)
		}
	case reflect.Slice:
		if v.Cap() > 0 {
			out = append(out, span{v.Pointer(), v.Pointer() + uintptr(v.Cap())*v.Type().Elem().Size()})
		}
		for i := range v.Len() {
			out = append(out, spans(v.Index(i))...)
		}
	}
	return out
}

// apart: no two lists of what is answered share any memory, and none shares some with what was handed in.
func apart(t *testing.T, answered any, handed ...any) {
	t.Helper()
	own := spans(reflect.ValueOf(answered))
	all := own
	for _, x := range handed {
		all = append(all, spans(reflect.ValueOf(x))...)
	}
	for i, a := range own {
		for _, b := range all[i+1:] {
			if a.from < b.to && b.from < a.to {
				t.Fatalf("%+v shares memory with itself, or with %+v", answered, handed)
			}
		}
	}
}

// game is what Play is handed.
type game struct {
	Conf  api.Conf
	Steps []api.Step
}

// result is what Play answers.
type result struct {
	Server api.Server
	Errs   []api.Errno
	Err    api.Errno
}

func (g game) play(table bool) result {
	s, errs, err := front.Play(g.Conf, g.Steps, table)
	return result{s, errs, err}
}

// keeps: what call is handed is as it was, its spare room is not looked at, and what it answers shares nothing with it, nor with itself.
func keeps[T, U any](t *testing.T, x T, call func(T) U) {
	t.Helper()
	want, in := told(call(x)), roomy(x)
	got := call(in)
	if told(got) != want {
		t.Fatalf("with spare room: %+v comes, not %s", got, want)
	}
	if told(whole(in)) != told(whole(roomy(x))) {
		t.Fatalf("%+v is left of %+v", whole(in), x)
	}
	apart(t, got, in)
	scribble(in)
	if told(got) != want {
		t.Fatalf("%+v is left of the answer, not %s", got, want)
	}
	in = roomy(x)
	scribble(call(in))
	if told(whole(in)) != told(whole(roomy(x))) {
		t.Fatalf("%+v is left of %+v behind who was answered", whole(in), x)
	}
	if again := call(in); told(again) != want {
		t.Fatalf("%+v comes again, not %s", again, want)
	}
}

// keepsServer holds so of each call that is handed a server.
func keepsServer(t *testing.T, s api.Server) {
	t.Helper()
	keeps(t, s, front.Done)
	keeps(t, s, front.Answers)
	for _, table := range []bool{false, true} {
		keeps(t, s, func(s api.Server) result {
			x, n := front.Finish(s, table)
			return result{Server: x, Err: api.Errno(n)}
		})
	}
}

// games are right and wrong ones, with steps of every kind.
func games() []game {
	steps := []api.Step{asks("/a"), goes(0), asks("/b"), asks("x"), goes(1), comes(msg.Answer(200, "yes")), goes(0), goes(0), ticks(), goes(9), {}, {Kind: 9, Msg: api.Msg{Path: "/a", Body: []byte("x")}}, asks("/c"), goes(1), goes(1), goes(2)}
	var out []game
	for _, c := range confs() {
		out = append(out, game{c, nil}, game{c, []api.Step{}}, game{c, steps[:1]}, game{c, steps}, game{c, make([]api.Step, api.MaxSteps)}, game{c, make([]api.Step, api.MaxSteps+1)})
	}
	for _, l := range wrongConfs() {
		out = append(out, game{l[0], steps})
	}
	return out
}

// TestK1OnlyReads: confs, steps and servers, whatever comes of them.
func TestK1OnlyReads(t *testing.T) {
	for _, g := range games() {
		for _, table := range []bool{false, true} {
			keeps(t, g, func(g game) result { return g.play(table) })
			keepsServer(t, g.play(table).Server)
		}
	}
	r := rand.New(rand.NewPCG(11, 4))
	for range 40 {
		g := game{anyConf(r), anySteps(r)}
		keeps(t, g, func(g game) result { return g.play(true) })
		keepsServer(t, g.play(false).Server)
	}
}

// TestK1OnlyReadsOdd: servers with something in each list that no steps made, whether they are done or not.
func TestK1OnlyReadsOdd(t *testing.T) {
	m := api.Msg{Status: 200, Heads: []api.Head{{Key: "k", Text: "v"}}, Body: []byte("yes")}
	for phase := range 8 {
		s := api.Server{Conf: confs()[4], Flights: make([]api.Flight, 3)}
		s.World = api.World{Gates: []int{1, 2, 3}, Failed: []int{1, 2}, Queue: []int{2, 0}, Marks: marks(up(0), give(1))}
		s.World.Ledger = api.Ledger{Holds: []api.Hold{{ID: 2, Kind: 1, Filter: -1}, {ID: 9, Kind: 2, Filter: -1}}, Most: [4]int{0, 1, 1, 1}}
		for i := range s.Flights {
			s.Flights[i] = api.Flight{ID: i, Phase: api.PhaseDone, Ask: m, Msg: m, Passed: []int{0, 1}, Again: []int{1, 0}, Faults: []api.Fault{{Kind: 1, Text: "oh"}}}
		}
		s.Flights[2].Phase = phase
		s.Flights[2].Waits = phase == api.PhaseUp || phase == api.PhaseIn
		keepsServer(t, s)
	}
}
