package fault

import "sieveworks/api"

// Kind is a kind of faults as an error, so that errors.Is finds it in what wraps it; numbers that are no kind's may be looked for too.
type Kind int

// Error is the kind's name.
func (k Kind) Error() string {
	switch k {
	case api.FaultFail:
		return "fail"
	case api.FaultPanic:
		return "panic"
	case api.FaultFatal:
		return "fatal"
	case api.FaultUp:
		return "upstream"
	case api.FaultOverload:
		return "overload"
	case api.FaultNoUp:
		return "no upstream"
	case api.FaultRelease:
		return "release"
	}
	return "?"
}

// Error is a fault as an error: api.Fault has no methods of its own.
type Error struct{ Fault api.Fault }

// Error is the fault's Text.
func (e Error) Error() string { return Text(e.Fault) }

// Is answers for the fault's own Kind; errors.Is goes on to what it wraps.
func (e Error) Is(target error) bool { return target == Kind(e.Fault.Kind) }

// Unwrap answers no Kind of 0: a fault that wraps nothing is none of it.
func (e Error) Unwrap() error {
	if e.Fault.Inner == 0 {
		return nil
	}
	return Kind(e.Fault.Inner)
}
