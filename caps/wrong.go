package caps

import (
	"sieveworks/api"
	"sieveworks/sieve"
)

// Wrong looks at how many there are ahead of all else, so that no list is gone through that is too long.
func Wrong(c api.Conf) (api.Errno, int) {
	if len(c.Sieves) > api.MaxSieves || len(c.Ups) > api.MaxUps || len(c.Bads) > api.MaxBads {
		return api.ErrMany, -1
	}
	if !limits(c) {
		return api.ErrRange, -1
	}
	if err, at := first(c.Sieves, sieve.Wrong); err != api.OK {
		return err, at
	}
	if err, at := first(c.Ups, wrongUp); err != api.OK {
		return err, at
	}
	return first(c.Bads, wrongBad)
}

// limits wants one at least that is asked at once: with none, whoever waits would wait for ever.
func limits(c api.Conf) bool {
	return count(c.Flights) && count(c.Conns) && count(c.Waits) && count(c.Timers) && c.Conns != 0
}

func count(n int) bool {
	return n >= 0 && n <= api.MaxCount
}

// first answers the number of the first one that is wrong, and -1 if none is.
func first[T any](l []T, wrong func(T) api.Errno) (api.Errno, int) {
	for i, x := range l {
		if err := wrong(x); err != api.OK {
			return err, i
		}
	}
	return api.OK, -1
}

// wrongUp lets anything stand in the path: at worst no ask's path begins so.
func wrongUp(u api.Up) api.Errno {
	if u.Status < 100 || u.Status > 599 || !count(u.Fails) || len(u.Text) > api.MaxBody || len(u.Path) > api.MaxPath {
		return api.ErrRange
	}
	return api.OK
}

// wrongBad lets ID and Filter be anything: a bad of an ask or a filter that never comes does nothing.
func wrongBad(b api.Bad) api.Errno {
	if b.Call < api.CallAsk || b.Call > api.CallGive || b.Do < api.DoNext || b.Do > api.DoAgain {
		return api.ErrKind
	}
	if len(b.Text) > api.MaxLine {
		return api.ErrMuch
	}
	return api.OK
}
