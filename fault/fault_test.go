package fault_test

import (
	"math"
	"strconv"
	"testing"

	"sieveworks/api"
	"sieveworks/fault"
	"sieveworks/msg"
)

// row is what the document says of a kind.
type row struct {
	kind   int
	name   string
	status int
}

// rows has the kinds in their order, then some that are none.
func rows() []row {
	return []row{
		{1, "fail", 400}, {2, "panic", 500}, {3, "fatal", 500}, {4, "upstream", 502}, {5, "overload", 503}, {6, "no upstream", 504}, {7, "release", 500},
		{0, "?", 500}, {8, "?", 500}, {9, "?", 500}, {-1, "?", 500}, {-7, "?", 500}, {257, "?", 500}, {1<<32 + 1, "?", 500}, {math.MaxInt, "?", 500}, {math.MinInt, "?", 500},
	}
}

// numbers are Filters, Calls: below 0, 0 and above.
func numbers() []int { return []int{math.MinInt, -2, -1, 0, 1, 5, 10, math.MaxInt} }

// texts are Texts: empty, ordinary ones, and such as look like a part of what is told.
func texts() []string {
	return []string{"", "oh", " ", ":", ": ", " at 1.2", "(fail)", "\n", "\x00\xff"}
}

func TestB1NamesAndStatuses(t *testing.T) {
	for _, r := range rows() {
		f := api.Fault{Kind: r.kind, Filter: -1}
		if got := fault.Text(f); got != r.name {
			t.Errorf("Text of kind %d: %q comes, not %q", r.kind, got, r.name)
		}
		for _, f := range []api.Fault{f, {Kind: r.kind}, {Kind: r.kind, Filter: 3, Call: 2, Text: "oh", Inner: 1}, {Kind: r.kind, Inner: 5}} {
			if got := fault.Status(f); got != r.status {
				t.Errorf("Status(%v): %d comes, not %d", f, got, r.status)
			}
		}
	}
}

// TestB1Kinds: the same by api's names, which the document's statuses go by.
func TestB1Kinds(t *testing.T) {
	for kind, name := range map[int]string{
		api.FaultFail: "fail", api.FaultPanic: "panic", api.FaultFatal: "fatal", api.FaultUp: "upstream",
		api.FaultOverload: "overload", api.FaultNoUp: "no upstream", api.FaultRelease: "release",
	} {
		if got := fault.Text(fault.New(kind)); got != name {
			t.Errorf("kind %d: %q comes, not %q", kind, got, name)
		}
	}
	for kind, status := range map[int]int{api.FaultFail: 400, api.FaultUp: 502, api.FaultOverload: 503, api.FaultNoUp: 504, api.FaultPanic: 500, api.FaultFatal: 500, api.FaultRelease: 500} {
		if got := fault.Status(fault.New(kind)); got != status {
			t.Errorf("kind %d: %d comes, not %d", kind, got, status)
		}
	}
}

func TestB1Text(t *testing.T) {
	for want, f := range map[string]api.Fault{
		"panic at 2.1 (fail): x": {Kind: 2, Filter: 2, Call: 1, Text: "x", Inner: 1},
		"fail at 0.1: x":         {Kind: 1, Filter: 0, Call: 1, Text: "x"},
		"fail at 0.0":            {Kind: 1},
		"? at 0.0":               {},
		"?":                      {Filter: -1, Call: 4},
		"fatal at 3.4":           {Kind: 3, Filter: 3, Call: 4},
		"release at 5.4 (panic)": {Kind: 7, Filter: 5, Call: 4, Inner: 2},
		"release (fatal)":        {Kind: 7, Filter: -1, Call: 4, Inner: 3},
		"no upstream":            {Kind: 6, Filter: -1},
		"upstream: gone":         {Kind: 4, Filter: -2, Text: "gone"},
		"overload (?): : ":       {Kind: 5, Filter: math.MinInt, Text: ": ", Inner: -1},
		"panic at 10.-3 (panic)": {Kind: 2, Filter: 10, Call: -3, Inner: 2},
		"? at 1.2 (no upstream)": {Kind: 8, Filter: 1, Call: 2, Inner: 6},
	} {
		if got := fault.Text(f); got != want {
			t.Errorf("Text(%v): %q comes, not %q", f, got, want)
		}
	}
}

// every goes through faults of every kind, Filter, Call, Text and Inner that is tried.
func every(do func(r, inner row, f api.Fault)) {
	for _, r := range rows() {
		for _, inner := range rows() {
			for _, filter := range numbers() {
				for _, call := range numbers() {
					for _, text := range texts() {
						do(r, inner, api.Fault{Kind: r.kind, Filter: filter, Call: call, Text: text, Inner: inner.kind})
					}
				}
			}
		}
	}
}

func TestB1TextOfEvery(t *testing.T) {
	every(func(r, inner row, f api.Fault) {
		want := r.name
		if f.Filter >= 0 {
			want += " at " + strconv.Itoa(f.Filter) + "." + strconv.Itoa(f.Call)
		}
		if inner.kind != 0 {
			want += " (" + inner.name + ")"
		}
		if len(f.Text) > 0 {
			want += ": " + f.Text
		}
		if got := fault.Text(f); got != want {
			t.Fatalf("Text(%v): %q comes, not %q", f, got, want)
		}
	})
}

func TestB1Is(t *testing.T) {
	for _, own := range rows() {
		for _, inner := range rows() {
			for _, asked := range rows() {
				want := asked.kind == own.kind || inner.kind != 0 && asked.kind == inner.kind
				for _, f := range []api.Fault{{Kind: own.kind, Inner: inner.kind}, {Kind: own.kind, Inner: inner.kind, Filter: asked.kind, Call: asked.kind, Text: asked.name}} {
					if got := fault.Is(f, asked.kind); got != want {
						t.Fatalf("Is(%v, %d): %v comes", f, asked.kind, got)
					}
				}
			}
		}
	}
}

// TestB1IsOfNought: an Inner of 0 is none, but a Kind of 0 is what it is.
func TestB1IsOfNought(t *testing.T) {
	for _, c := range []struct {
		f    api.Fault
		want bool
	}{
		{api.Fault{}, true}, {api.Fault{Inner: 1}, true}, {api.Fault{Kind: 1}, false}, {api.Fault{Kind: 1, Inner: 2}, false}, {api.Fault{Kind: -1}, false}, {api.Fault{Kind: 9}, false},
	} {
		if got := fault.Is(c.f, 0); got != c.want {
			t.Errorf("Is(%v, 0): %v comes", c.f, got)
		}
	}
}

func TestB1New(t *testing.T) {
	for _, r := range rows() {
		if got, want := fault.New(r.kind), (api.Fault{Kind: r.kind, Filter: -1}); got != want {
			t.Errorf("New(%d): %v comes, not %v", r.kind, got, want)
		}
	}
}

func TestB1Answer(t *testing.T) {
	every(func(r, _ row, f api.Fault) {
		if got, want := fault.Answer(f), (api.Msg{Status: r.status, Body: []byte(r.name)}); !msg.Same(got, want) {
			t.Fatalf("Answer(%v): %v comes, not %v", f, got, want)
		}
	})
	for _, r := range rows() {
		if err := msg.Wrong(fault.Answer(fault.New(r.kind))); err != api.OK {
			t.Errorf("the answer of kind %d is wrong: %v", r.kind, err)
		}
	}
}

// TestB1AnswerIsNew: whatever becomes of one answer, the next one is as it should be.
func TestB1AnswerIsNew(t *testing.T) {
	for _, r := range rows() {
		body := fault.Answer(fault.New(r.kind)).Body
		for i := range body[:cap(body)] {
			body[:cap(body)][i] = 'X'
		}
		if got := fault.Answer(fault.New(r.kind)); string(got.Body) != r.name {
			t.Errorf("kind %d: %q comes", r.kind, got.Body)
		}
	}
}
