package watch_test

import (
	"math/rand/v2"
	"reflect"
	"testing"

	"sieveworks/api"
	"sieveworks/watch"
)

// behind is so many entries of spare room that each list is handed in with.
const behind = 3

// roomy copies a value, and puts something behind each of its lists that would count if it stood in them.
func roomy[T any](x T) T { return copied(reflect.ValueOf(x), behind).Interface().(T) }

// whole copies a value with all that stands in the spare room of its lists.
func whole[T any](x T) T { return copied(reflect.ValueOf(x), -1).Interface().(T) }

// copied has so many ones behind each list, or, if it is to have -1 of them, what was behind it in the list.
func copied(v reflect.Value, ones int) reflect.Value {
	out := reflect.New(v.Type()).Elem()
	switch v.Kind() {
	case reflect.Struct:
		for i := range v.NumField() {
			out.Field(i).Set(copied(v.Field(i), ones))
		}
	case reflect.Slice:
		if ones < 0 {
			v = v.Slice(0, v.Cap())
		}
		out.Set(reflect.MakeSlice(v.Type(), v.Len(), v.Len()+max(ones, 0)))
		for i := range v.Len() {
			out.Index(i).Set(copied(v.Index(i), ones))
		}
		for room := out.Slice(0, out.Cap()); ones > 0; ones-- {
			fill(room.Index(out.Cap()-ones), 1, "k")
		}
	default:
		out.Set(v)
	}
	return out
}

// fill sets all numbers and texts of a value, those in lists too, and those in the spare room behind these.
func fill(v reflect.Value, n int64, s string) {
	switch v.Kind() {
	case reflect.Struct:
		for i := range v.NumField() {
			fill(v.Field(i), n, s)
		}
	case reflect.Array:
		for i := range v.Len() {
			fill(v.Index(i), n, s)
		}
	case reflect.Slice:
		all := v.Slice(0, v.Cap())
		for i := range all.Len() {
			fill(all.Index(i), n, s)
		}
	case reflect.String:
		v.SetString(s)
	case reflect.Bool:
		v.SetBool(true)
	case reflect.Uint8:
		v.SetUint(uint64(n))
	default:
		v.SetInt(n)
	}
}

// scribble writes over all lists of a value, and over their spare room.
func scribble[T any](x T) { fill(reflect.ValueOf(&x).Elem(), 77, "scribbled") }

// span is where in memory a list lies, its spare room too.
type span struct{ from, to uintptr }

func spans(v reflect.Value) []span {
	var out []span
	switch v.Kind() {
	case reflect.Struct:
		for i := range v.NumField() {
			out = append(out, spans(v.Field(i))...)
		}
	case reflect.Slice:
		if v.Cap() > 0 {
			out = append(out, span{v.Pointer(), v.Pointer() + uintptr(v.Cap())*v.Type().Elem().Size()})
		}
		for i := range v.Len() {
			out = append(out, spans(v.Index(i))...)
		}
	}
	return out
}

// apart: no two lists of what is answered share any memory, and none shares some with what was handed in.
func apart(t *testing.T, answered any, handed ...any) {
	t.Helper()
	own := spans(reflect.ValueOf(answered))
	all := own
	for _, x := range handed {
		all = append(all, spans(reflect.ValueOf(x))...)
	}
	for i, a := range own {
		for _, b := range all[i+1:] {
			if a.from < b.to && b.from < a.to {
				t.Fatalf("%+v shares memory with itself, or with %+v", answered, handed)
			}
		}
	}
}

// keeps: what call is handed is as it was, its spare room is not looked at, and what it answers shares nothing with it, nor with itself.
func keeps[T, U any](t *testing.T, x T, call func(T) U) {
	t.Helper()
	want, in := told(call(x)), roomy(x)
	got := call(in)
	if told(got) != want {
		t.Fatalf("with spare room: %+v comes, not %s", got, want)
	}
	if told(whole(in)) != told(whole(roomy(x))) {
		t.Fatalf("%+v is left of %+v", whole(in), x)
	}
	apart(t, got, in)
	scribble(in)
	if told(got) != want {
		t.Fatalf("%+v is left of the answer, not %s", got, want)
	}
	in = roomy(x)
	scribble(call(in))
	if told(whole(in)) != told(whole(roomy(x))) {
		t.Fatalf("%+v is left of %+v behind who was answered", whole(in), x)
	}
	if again := call(in); told(again) != want {
		t.Fatalf("%+v comes again, not %s", again, want)
	}
}

// keepsServer holds so of each call that is handed a server, or its marks.
func keepsServer(t *testing.T, s api.Server) {
	t.Helper()
	for id := range len(s.Flights) + 1 {
		keeps(t, s, func(s api.Server) []api.Mark { return watch.Trace(s, id) })
		keeps(t, s, func(s api.Server) [4]int { return watch.Held(s, id) })
	}
	keeps(t, s, watch.Right)
	keeps(t, s.World.Marks, watch.Onion)
	keeps(t, watch.Trace(s, 0), watch.Onion)
}

// odd are servers that no steps made: of numbers that are none, too.
func odd() []api.Server {
	out := []api.Server{{}, all(), with(func(s *api.Server) { s.World.Queue = nil })}
	for _, n := range append(great(), -1, 0, 1, 5) {
		out = append(out, with(func(s *api.Server) {
			s.World.Queue = append(s.World.Queue, n)
			s.World.Marks = []api.Mark{mark(n, n, n), mark(0, n, n), mark(n, 1, 1)}
			take(s, n, n)
			take(s, 0, n)
			s.Flights[1].ID, s.Flights[2].Phase = n, n
		}))
	}
	return out
}

// TestL1OnlyReads: servers, whatever stands in them; what is answered is new memory.
func TestL1OnlyReads(t *testing.T) {
	for _, s := range odd() {
		keepsServer(t, s)
	}
	r := rand.New(rand.NewPCG(12, 7))
	plays(t, 8, func(s api.Server) {
		if r.IntN(200) == 0 {
			keepsServer(t, s)
		}
	})
}

// TestL2OnlyReads: lists in order and out of order.
func TestL2OnlyReads(t *testing.T) {
	for _, l := range [][]api.Mark{nil, {}, {mark(0, 0, 1)}, {mark(0, 0, 1), mark(0, 1, 5), mark(0, 1, 2)}, {mark(0, 1, 5), mark(0, 1, 3), mark(0, 1, 5)}, {mark(0, 1, 2), mark(0, 1, 2)}} {
		keeps(t, l, watch.Onion)
	}
}
