package guard

import (
	"errors"
	"fmt"
	"testing"

	"sieveworks/api"
	"sieveworks/fault"
)

// panicked answers what is made of what do panics by.
func panicked(do func()) (f api.Fault) {
	defer func() { f = caught(recover()) }()
	do()
	return api.Fault{}
}

// TestD1Caught: whatever is caught is a fault, also of what no Do panics by, and what is wrapped is found.
func TestD1Caught(t *testing.T) {
	var none []int
	fail := fault.Error{Fault: api.Fault{Kind: api.FaultFail, Filter: 8, Call: 9, Text: "x"}}
	fatal := fault.Kind(api.FaultFatal)
	for name, c := range map[string]struct {
		do   func()
		want api.Fault
	}{
		"text":          {func() { panic("x") }, api.Fault{Kind: api.FaultPanic, Text: "x"}},
		"no text":       {func() { panic("") }, api.Fault{Kind: api.FaultPanic}},
		"number":        {func() { panic(3) }, api.Fault{Kind: api.FaultPanic}},
		"error":         {func() { panic(errors.New("x")) }, api.Fault{Kind: api.FaultPanic, Text: "x"}},
		"fault":         {func() { panic(fail) }, api.Fault{Kind: api.FaultPanic, Text: "x", Inner: api.FaultFail}},
		"wrapped fault": {func() { panic(fmt.Errorf("outside: %w", fail)) }, api.Fault{Kind: api.FaultPanic, Text: "x", Inner: api.FaultFail}},
		"fatal":         {func() { panic(fatal) }, api.Fault{Kind: api.FaultFatal}},
		"wrapped fatal": {func() { panic(fmt.Errorf("outside: %w", fatal)) }, api.Fault{Kind: api.FaultFatal}},
	} {
		if got := panicked(c.do); got != c.want {
			t.Errorf("%s: %v comes, not %v", name, got, c.want)
		}
	}
	if got := panicked(func() { none[0]++ }); got.Kind != api.FaultPanic || got.Text == "" || got.Inner != 0 {
		t.Errorf("of what the language panics by: %v comes", got)
	}
}
