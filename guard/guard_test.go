package guard_test

import (
	"math"
	"slices"
	"strings"
	"sync"
	"testing"

	"sieveworks/api"
	"sieveworks/fault"
	"sieveworks/guard"
)

// numbers are filters and calls: 0, below 0, ordinary and great ones.
func numbers() []int {
	return []int{math.MinInt, -2, -1, 0, 1, 2, 3, 4, 5, 6, 1 << 31, 1 << 32, math.MaxInt}
}

// others are Dos that there are not.
func others() []int {
	return []int{-1, -2, -3, -6, 7, 8, 9, 256, 257, 259, 1<<32 + 1, 1<<32 + 3, math.MaxInt, math.MinInt}
}

// texts are empty, ordinary, like what faults are called or told as, beside UTF-8, and long.
func texts() []string {
	return []string{"", "x", "oh no", " ", "fail", "panic", "fatal", "?", "panic at 2.1 (fail): x", "nil", "\n", "\x00\xff\xfe", strings.Repeat("long ", 20000)}
}

// row is what the document says of a Do: what was done, or which fault comes, and whether text is told.
type row struct {
	do          int
	did         int
	kind, inner int
	says        bool
}

func rows() []row {
	return []row{
		{do: api.DoNext, did: api.DoNext},
		{do: api.DoStop, did: api.DoStop},
		{do: api.DoAgain, did: api.DoAgain},
		{do: api.DoFail, kind: api.FaultFail, says: true},
		{do: api.DoPanic, kind: api.FaultPanic, says: true},
		{do: api.DoWrap, kind: api.FaultPanic, inner: api.FaultFail, says: true},
		{do: api.DoFatal, kind: api.FaultFatal},
	}
}

// due is the outcome that r asks for.
func due(r row, filter, call int, text string) api.Outcome {
	out := api.Outcome{Do: r.did}
	if r.kind == 0 {
		return out
	}
	out.Fault = api.Fault{Kind: r.kind, Filter: filter, Call: call, Inner: r.inner}
	if r.says {
		out.Fault.Text = text
	}
	return out
}

// nothing is the outcome of Dos that there are not.
func nothing() api.Outcome {
	return api.Outcome{Fault: api.Fault{Kind: api.FaultFail, Filter: -1}}
}

// every goes through all that is tried, and what must come of it.
func every(look func(filter, call, do int, text string, want api.Outcome)) {
	for _, filter := range numbers() {
		for _, call := range numbers() {
			for _, text := range texts() {
				for _, r := range rows() {
					look(filter, call, r.do, text, due(r, filter, call, text))
				}
				for _, do := range others() {
					look(filter, call, do, text, nothing())
				}
			}
		}
	}
}

// try tells a panic of the call that reaches who made it, too.
func try(filter, call, do int, text string) (out api.Outcome, through any) {
	defer func() { through = recover() }()
	return guard.Call(filter, call, do, text), nil
}

func TestD1Call(t *testing.T) {
	every(func(filter, call, do int, text string, want api.Outcome) {
		got, through := try(filter, call, do, text)
		if through != nil {
			t.Fatalf("Call(%d, %d, %d, %.40q) panics by %v", filter, call, do, text, through)
		}
		if got != want {
			t.Fatalf("Call(%d, %d, %d, %.40q): %.80v comes, not %.80v", filter, call, do, text, got, want)
		}
	})
}

// TestD1ByNumbers: the same in the numbers that stand in package api, written out.
func TestD1ByNumbers(t *testing.T) {
	for do, want := range []api.Outcome{
		{},
		{Do: 1},
		{Fault: api.Fault{Kind: 1, Filter: 3, Call: 2, Text: "x"}},
		{Fault: api.Fault{Kind: 2, Filter: 3, Call: 2, Text: "x"}},
		{Fault: api.Fault{Kind: 2, Filter: 3, Call: 2, Text: "x", Inner: 1}},
		{Fault: api.Fault{Kind: 3, Filter: 3, Call: 2}},
		{Do: 6},
		{Fault: api.Fault{Kind: 1, Filter: -1}},
	} {
		if got := guard.Call(3, 2, do, "x"); got != want {
			t.Errorf("Do %d: %v comes, not %v", do, got, want)
		}
	}
}

func TestD1Told(t *testing.T) {
	for do, want := range map[int]string{
		api.DoFail: "fail at 3.1: x", api.DoPanic: "panic at 3.1: x", api.DoWrap: "panic at 3.1 (fail): x", api.DoFatal: "fatal at 3.1", 7: "fail", -1: "fail",
	} {
		if got := fault.Text(guard.Call(3, api.CallAsk, do, "x").Fault); got != want {
			t.Errorf("Do %d: %q comes, not %q", do, got, want)
		}
	}
}

// TestD1Others: of a Do that there is not, New's fault comes, whatever else is handed in.
func TestD1Others(t *testing.T) {
	want := api.Outcome{Fault: fault.New(api.FaultFail)}
	for _, do := range others() {
		for _, n := range numbers() {
			if got := guard.Call(n, n, do, "x"); got != want {
				t.Errorf("Do %d of filter %d: %v comes, not %v", do, n, got, want)
			}
		}
	}
}

// TestD1NextOne: whatever the call ahead did, the next one is as it is.
func TestD1NextOne(t *testing.T) {
	dos := others()
	for _, r := range rows() {
		dos = append(dos, r.do)
	}
	for _, ahead := range dos {
		for _, r := range rows() {
			guard.Call(9, 9, ahead, "ahead")
			if got, want := guard.Call(1, 2, r.do, "next"), due(r, 1, 2, "next"); got != want {
				t.Errorf("Do %d behind %d: %v comes, not %v", r.do, ahead, got, want)
			}
		}
		guard.Call(9, 9, ahead, "ahead")
		if got := guard.Call(1, 2, 7, "next"); got != nothing() {
			t.Errorf("no Do behind %d: %v comes", ahead, got)
		}
	}
}

// TestD1ManyTimes: what is caught leaves nothing behind that grows or wears off.
func TestD1ManyTimes(t *testing.T) {
	for i := range 50000 {
		r := rows()[i%len(rows())]
		if got, want := guard.Call(i, -i, r.do, "x"), due(r, i, -i, "x"); got != want {
			t.Fatalf("time %d, Do %d: %v comes, not %v", i, r.do, got, want)
		}
	}
}

// TestD1InPanic: a guard catches what its own call panics by, not what who calls it panics by already.
func TestD1InPanic(t *testing.T) {
	for _, r := range rows() {
		var inside api.Outcome
		outside := func() (cause any) {
			defer func() { cause = recover() }()
			defer func() { inside = guard.Call(1, 2, r.do, "inner") }()
			panic("outer")
		}()
		if outside != "outer" {
			t.Errorf("Do %d: %v is left of the caller's own panic", r.do, outside)
		}
		if want := due(r, 1, 2, "inner"); inside != want {
			t.Errorf("Do %d: %v comes, not %v", r.do, inside, want)
		}
	}
}

// TestD1AtOnce: calls that are made at the same time know nothing of each other.
func TestD1AtOnce(t *testing.T) {
	const workers, times = 8, 500
	wrong := make([]int, workers)
	var all sync.WaitGroup
	for n := range workers {
		all.Go(func() {
			text := strings.Repeat("w", n)
			for i := range times {
				r := rows()[(i+n)%len(rows())]
				if guard.Call(n, i, r.do, text) != due(r, n, i, text) {
					wrong[n]++
				}
			}
		})
	}
	all.Wait()
	if at := slices.IndexFunc(wrong, func(n int) bool { return n > 0 }); at >= 0 {
		t.Errorf("worker %d: %d outcomes are wrong", at, wrong[at])
	}
}
