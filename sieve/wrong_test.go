package sieve_test

import (
	"math"
	"strings"
	"testing"

	"sieveworks/api"
	"sieveworks/sieve"
)

// named are the kinds that have Key and Text; counted those that have N, and how great it may be.
func named() []int { return []int{api.SieveSet, api.SieveMark, api.SieveToken} }

func counted() map[int]int {
	return map[int]int{api.SieveLimit: 40, api.SieveGate: 4, api.SieveRetry: 4, api.SieveWild: 7}
}

// others are kinds that there are not, some of which would be one if a part of their bits were lost.
func others() []int {
	return []int{0, -1, -2, -7, 8, 9, 15, 255, 256 + 1, 1<<16 + 4, 1<<32 + 1, 1<<32 + 7, math.MaxInt, math.MinInt, math.MinInt + 5}
}

// greats are numbers far from all limits, on both sides.
func greats() []int {
	return []int{math.MinInt, math.MinInt + 1, -1 << 40, -256, -2, 256, 256 + 3, 1 << 16, 1 << 31, 1 << 32, 1<<32 + 3, math.MaxInt - 1, math.MaxInt}
}

func wrongIs(t *testing.T, s api.Sieve, want api.Errno) {
	t.Helper()
	if got := sieve.Wrong(s); got != want {
		t.Errorf("Wrong(%+v): %v comes, not %v", s, got, want)
	}
}

func TestE1WrongKey(t *testing.T) {
	for _, kind := range named() {
		for n := range 3 * api.MaxKey {
			want := api.ErrName
			if n >= 1 && n <= api.MaxKey {
				want = api.OK
			}
			wrongIs(t, api.Sieve{Kind: kind, Key: strings.Repeat("k", n), Text: "v"}, want)
		}
		for b := range 256 {
			want := api.ErrName
			if b >= 'a' && b <= 'z' {
				want = api.OK
			}
			wrongIs(t, api.Sieve{Kind: kind, Key: "k" + string([]byte{byte(b)}), Text: "v"}, want)
			wrongIs(t, api.Sieve{Kind: kind, Key: string([]byte{byte(b)}) + "k", Text: "v"}, want)
		}
	}
}

func TestE1WrongText(t *testing.T) {
	for _, kind := range named() {
		for n := range 3 * api.MaxLine {
			want := api.ErrName
			if n <= api.MaxLine {
				want = api.OK
			}
			wrongIs(t, api.Sieve{Kind: kind, Key: "k", Text: strings.Repeat("~", n)}, want)
		}
		for b := range 256 {
			want := api.ErrName
			if b >= ' ' && b <= '~' {
				want = api.OK
			}
			wrongIs(t, api.Sieve{Kind: kind, Key: "k", Text: "v" + string([]byte{byte(b)})}, want)
			wrongIs(t, api.Sieve{Kind: kind, Key: "k", Text: string([]byte{byte(b)}) + "v"}, want)
		}
		for _, key := range []string{"", "K", "abcdefghi"} {
			wrongIs(t, api.Sieve{Kind: kind, Key: key, Text: "\n"}, api.ErrName)
			wrongIs(t, api.Sieve{Kind: kind, Key: key}, api.ErrName)
		}
	}
}

func TestE1WrongN(t *testing.T) {
	for kind, most := range counted() {
		for n := -50; n <= 300; n++ {
			want := api.OK
			if n < 0 || n > most {
				want = api.ErrRange
			}
			wrongIs(t, api.Sieve{Kind: kind, N: n}, want)
		}
		for _, n := range greats() {
			wrongIs(t, api.Sieve{Kind: kind, N: n, Key: "k", Text: "v"}, api.ErrRange)
		}
	}
}

// TestE1WrongOthers: a kind that there isn't is told as such, whatever stands beside it.
func TestE1WrongOthers(t *testing.T) {
	for _, kind := range others() {
		wrongIs(t, api.Sieve{Kind: kind}, api.ErrKind)
		wrongIs(t, api.Sieve{Kind: kind, N: 1, Key: "k", Text: "v"}, api.ErrKind)
		wrongIs(t, api.Sieve{Kind: kind, N: -1, Key: "K", Text: "\n"}, api.ErrKind)
		wrongIs(t, api.Sieve{Kind: kind, N: math.MaxInt, Key: "k"}, api.ErrKind)
	}
}

// TestE1FieldsThatAKindHasNot: they mean nothing, whatever stands in them.
func TestE1FieldsThatAKindHasNot(t *testing.T) {
	long := strings.Repeat("K\n", 99)
	for _, kind := range named() {
		for _, n := range append(greats(), -1, 0, 4, 5, 8, 41) {
			wrongIs(t, api.Sieve{Kind: kind, N: n, Key: "k", Text: "v"}, api.OK)
			wrongIs(t, api.Sieve{Kind: kind, N: n, Text: "v"}, api.ErrName)
		}
	}
	for kind, most := range counted() {
		for _, key := range []string{"", "k", "K", long} {
			for _, text := range []string{"", "v", "a\nb", long} {
				wrongIs(t, api.Sieve{Kind: kind, Key: key, Text: text}, api.OK)
				wrongIs(t, api.Sieve{Kind: kind, N: most, Key: key, Text: text}, api.OK)
				wrongIs(t, api.Sieve{Kind: kind, N: most + 1, Key: key, Text: text}, api.ErrRange)
			}
		}
	}
}

// TestE1ByNumbers: the same in the numbers that stand in package api, written out.
func TestE1ByNumbers(t *testing.T) {
	for s, want := range map[api.Sieve]api.Errno{
		{Kind: 1, Key: "k"}: 0, {Kind: 2, Key: "abcdefgh"}: 0, {Kind: 3, Key: "k", Text: "12345678901234567890"}: 0,
		{Kind: 1}: 7, {Kind: 2, Key: "abcdefghi"}: 7, {Kind: 3, Key: "k", Text: "123456789012345678901"}: 7,
		{Kind: 4, N: 40}: 0, {Kind: 5, N: 4}: 0, {Kind: 6, N: 4}: 0, {Kind: 7, N: 7}: 0,
		{Kind: 4, N: 41}: 3, {Kind: 5, N: 5}: 3, {Kind: 6, N: 5}: 3, {Kind: 7, N: 8}: 3,
		{Kind: 4, N: -1}: 3, {Kind: 5, N: -1}: 3, {Kind: 6, N: -1}: 3, {Kind: 7, N: -1}: 3,
		{}: 1, {Kind: 8, Key: "k"}: 1, {Kind: -1, Key: "k"}: 1,
	} {
		wrongIs(t, s, want)
	}
}

// abilities asks the value what it can, one by one.
func abilities(s api.Sieve) int {
	f, can := sieve.New(s), 0
	if _, ok := f.(sieve.Asker); ok {
		can |= api.CanAsk
	}
	if _, ok := f.(sieve.Answerer); ok {
		can |= api.CanAnswer
	}
	if c, ok := f.(sieve.Closer); ok {
		can |= api.CanClose
		c.Close()
	}
	return can
}

// TestE1Values: filters are values that can just what they can.
func TestE1Values(t *testing.T) {
	want := map[int]int{
		api.SieveSet: api.CanAsk, api.SieveToken: api.CanAsk, api.SieveLimit: api.CanAsk, api.SieveGate: api.CanAsk,
		api.SieveMark: api.CanAnswer, api.SieveRetry: api.CanAnswer,
	}
	for _, n := range append(greats(), -1, 0, 1, 2, 3, 4, 5, 6, 7, 8, 9, 13, 41) {
		for kind, can := range want {
			if got := abilities(api.Sieve{Kind: kind, N: n}); got != can {
				t.Errorf("kind %d, N %d: it can %d, not %d", kind, n, got, can)
			}
		}
		for _, kind := range others() {
			if got := abilities(api.Sieve{Kind: kind, N: n, Key: "k"}); got != 0 {
				t.Errorf("kind %d, N %d: it can %d", kind, n, got)
			}
		}
		if got := abilities(api.Sieve{Kind: api.SieveWild, N: n}); got != ((n%8)+8)%8 {
			t.Errorf("a wild one of %d can %d", n, got)
		}
	}
}
