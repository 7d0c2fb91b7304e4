package fault_test

import (
	"errors"
	"fmt"
	"testing"

	"sieveworks/api"
	"sieveworks/fault"
)

// TestB1Errors: what is wrapped is found, by the library's own words too.
func TestB1Errors(t *testing.T) {
	f := api.Fault{Kind: api.FaultPanic, Filter: 2, Call: 1, Text: "x", Inner: api.FaultFail}
	err := fmt.Errorf("outside: %w", fault.Error{Fault: f})
	for kind := range 10 {
		want := kind == api.FaultPanic || kind == api.FaultFail
		if got := errors.Is(err, fault.Kind(kind)); got != want {
			t.Errorf("kind %d: %v comes", kind, got)
		}
	}
	var found fault.Error
	if !errors.As(err, &found) || found.Fault != f {
		t.Errorf("%v is found", found)
	}
	var kind fault.Kind
	if !errors.As(err, &kind) || kind != api.FaultFail {
		t.Errorf("%d is what it wraps", int(kind))
	}
	if got := found.Error(); got != fault.Text(f) {
		t.Errorf("%q comes", got)
	}
}

// odd is an error that can't be held against others.
type odd []string

func (o odd) Error() string { return "fail" }

func TestB1ErrorsOfOthers(t *testing.T) {
	err := fault.Error{Fault: fault.New(api.FaultFail)}
	if errors.Unwrap(err) != nil {
		t.Error("a fault without Inner wraps something")
	}
	for _, other := range []error{nil, errors.New("fail"), odd{"fail"}, &odd{}} {
		if errors.Is(err, other) {
			t.Errorf("it is %v", other)
		}
	}
}
