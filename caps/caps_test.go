package caps_test

import (
	"math"
	"strings"
	"testing"

	"sieveworks/api"
	"sieveworks/caps"
)

// can is what filters of each kind can, but of wild ones, which can what N says.
func can() map[int]int {
	return map[int]int{
		api.SieveSet: api.CanAsk, api.SieveToken: api.CanAsk, api.SieveLimit: api.CanAsk, api.SieveGate: api.CanAsk,
		api.SieveMark: api.CanAnswer, api.SieveRetry: api.CanAnswer,
	}
}

// others are kinds that there are not, some of which would be one if a part of their bits were lost.
func others() []int {
	return []int{0, -1, -2, -7, 8, 9, 15, 255, 256 + 1, 1<<16 + 4, 1<<32 + 1, 1<<32 + 7, math.MaxInt, math.MinInt, math.MinInt + 5}
}

// greats are numbers far from all limits, on both sides.
func greats() []int {
	return []int{math.MinInt, math.MinInt + 1, -1 << 40, -256, -2, 256, 256 + 3, 1 << 16, 1 << 31, 1 << 32, 1<<32 + 1, 1<<32 + 3, math.MaxInt - 1, math.MaxInt}
}

// heads are those of right filters, and of wrong ones: none of them has a part in what a filter can.
func heads() []api.Head {
	return []api.Head{{}, {Key: "k"}, {Key: "k", Text: "v"}, {Key: "K", Text: "\n"}, {Key: strings.Repeat("k", 99), Text: strings.Repeat("v", 99)}}
}

func numbers() []int { return append(greats(), -9, -8, -1, 0, 1, 2, 3, 4, 5, 6, 7, 8, 9, 40, 41) }

func ofIs(t *testing.T, s api.Sieve, want int) {
	t.Helper()
	if got := caps.Of(s); got != want {
		t.Errorf("Of(%+v): %d comes, not %d", s, got, want)
	}
}

func TestF1OfKinds(t *testing.T) {
	for _, n := range numbers() {
		for _, h := range heads() {
			for kind, want := range can() {
				ofIs(t, api.Sieve{Kind: kind, N: n, Key: h.Key, Text: h.Text}, want)
			}
			for _, kind := range others() {
				ofIs(t, api.Sieve{Kind: kind, N: n, Key: h.Key, Text: h.Text}, 0)
			}
		}
	}
}

// TestF1OfWild: the lowest three bits are what is left of N by 8, also below 0.
func TestF1OfWild(t *testing.T) {
	for _, h := range heads() {
		for n := -100; n <= 100; n++ {
			ofIs(t, api.Sieve{Kind: api.SieveWild, N: n, Key: h.Key, Text: h.Text}, (n%8+8)%8)
		}
		for _, n := range greats() {
			ofIs(t, api.Sieve{Kind: api.SieveWild, N: n, Key: h.Key, Text: h.Text}, (n%8+8)%8)
		}
	}
}

// calls are all that there are, and others, some of which would be one if a part of their bits were lost.
func calls() []int {
	return append(greats(), -3, -1, 0, 1, 2, 3, 4, 5, 6, 7, 8, 1<<32+2, -1<<32+1, math.MinInt+3)
}

// canIs holds Can of each call against the bits of what the filter can.
func canIs(t *testing.T, s api.Sieve, bits int) {
	t.Helper()
	of := map[int]int{api.CallAsk: api.CanAsk, api.CallAnswer: api.CanAnswer, api.CallClose: api.CanClose}
	for _, call := range calls() {
		bit, ok := of[call]
		want := ok && bits&bit != 0
		if got := caps.Can(s, call); got != want {
			t.Errorf("Can(%+v, %d): %v comes, not %v", s, call, got, want)
		}
	}
}

func TestF1Can(t *testing.T) {
	for _, n := range numbers() {
		for kind, bits := range can() {
			canIs(t, api.Sieve{Kind: kind, N: n, Key: "k", Text: "v"}, bits)
		}
		for _, kind := range others() {
			canIs(t, api.Sieve{Kind: kind, N: n, Key: "k", Text: "v"}, 0)
		}
		canIs(t, api.Sieve{Kind: api.SieveWild, N: n}, (n%8+8)%8)
	}
}

// TestF1OfByNumbers: the same in the numbers that stand in package api, written out.
func TestF1OfByNumbers(t *testing.T) {
	for kind, want := range []int{0, 1, 2, 1, 1, 1, 2, 0, 0} {
		ofIs(t, api.Sieve{Kind: kind, Key: "k"}, want)
	}
	for n, want := range []int{0, 1, 2, 3, 4, 5, 6, 7, 0, 1} {
		ofIs(t, api.Sieve{Kind: 7, N: n}, want)
	}
	ofIs(t, api.Sieve{Kind: 7, N: -1}, 7)
	for n, want := range []string{"000000", "010000", "001000", "011000", "000100", "010100", "001100", "011100", "000000"} {
		got := ""
		for call := range 6 {
			if caps.Can(api.Sieve{Kind: 7, N: n}, call) {
				got += "1"
			} else {
				got += "0"
			}
		}
		if got != want {
			t.Errorf("a wild filter of %d can of calls 0 to 5: %s, not %s", n, got, want)
		}
	}
}
