package msg_test

import (
	"math"
	"reflect"
	"strings"
	"testing"

	"sieveworks/api"
	"sieveworks/msg"
)

const letters = "abcdefghijklmnopqrstuvwxyz"

// heads makes so many right heads, each with another key.
func heads(n int) []api.Head {
	var l []api.Head
	for i := range n {
		l = append(l, api.Head{Key: "k" + letters[i:i+1], Text: "v"})
	}
	return l
}

func head(key, text string) []api.Head {
	return []api.Head{{Key: key, Text: text}}
}

// whole is a message of which every field is more than zero.
func whole() api.Msg {
	return api.Msg{Status: 200, Path: "/p", Heads: []api.Head{{Key: "a", Text: "1"}, {Key: "b", Text: "2"}}, Body: []byte("xyz")}
}

// roomy is whole with spare room behind its lists, and something in there that nobody may touch.
func roomy() (api.Msg, []api.Head, []byte) {
	m := whole()
	behind := append(m.Heads, api.Head{Key: "spare", Text: "room"}, api.Head{Key: "more", Text: "of it"})
	body := append(m.Body, "spare"...)
	m.Heads, m.Body = behind[:2], body[:3]
	return m, behind, body
}

// everyByte holds what a byte alone does, set into a text that fits, against what it should do.
func everyByte(t *testing.T, name string, fits func(string) bool, ahead string, may func(b byte) bool) {
	t.Helper()
	for i := range 256 {
		b := byte(i)
		for _, s := range []string{ahead + string([]byte{b}), ahead + string([]byte{b}) + "a", ahead + "a" + string([]byte{b})} {
			if got := fits(s); got != may(b) {
				t.Errorf("%s(%q): %v comes", name, s, got)
			}
		}
	}
}

func TestA1Key(t *testing.T) {
	everyByte(t, "Key", msg.Key, "", func(b byte) bool { return strings.IndexByte(letters, b) >= 0 })
	for n := range 3 * api.MaxKey {
		if got := msg.Key(strings.Repeat("z", n)); got != (n >= 1 && n <= api.MaxKey) {
			t.Errorf("Key of %d letters: %v comes", n, got)
		}
	}
}

func TestA1Path(t *testing.T) {
	everyByte(t, "Path", msg.Path, "/", func(b byte) bool { return strings.IndexByte(letters+"0123456789/", b) >= 0 })
	for n := range 3 * api.MaxPath {
		if got := msg.Path(strings.Repeat("/", n)); got != (n >= 1 && n <= api.MaxPath) {
			t.Errorf("Path of %d slashes: %v comes", n, got)
		}
	}
	for s, want := range map[string]bool{"/": true, "/a/9": true, "//": true, "/09/z/": true, "": false, "a": false, "a/": false, "9/": false, " /": false} {
		if got := msg.Path(s); got != want {
			t.Errorf("Path(%q): %v comes", s, got)
		}
	}
}

func TestA1Line(t *testing.T) {
	everyByte(t, "Line", msg.Line, "", func(b byte) bool { return b >= 32 && b <= 126 })
	for n := range 3 * api.MaxLine {
		if got := msg.Line(strings.Repeat("~", n)); got != (n <= api.MaxLine) {
			t.Errorf("Line of %d bytes: %v comes", n, got)
		}
	}
}

func TestA1WrongStatus(t *testing.T) {
	for n, want := range map[int]api.Errno{
		1: api.ErrRange, 99: api.ErrRange, 100: api.OK, 101: api.OK, 404: api.OK, 598: api.OK, 599: api.OK, 600: api.ErrRange,
		-1: api.ErrRange, -100: api.ErrRange, -200: api.ErrRange, math.MaxInt: api.ErrRange, math.MinInt: api.ErrRange,
	} {
		if got := msg.Wrong(api.Msg{Status: n}); got != want {
			t.Errorf("Wrong of status %d: %v comes, not %v", n, got, want)
		}
	}
	for status, want := range map[int]api.Errno{0: api.OK, 100: api.ErrForm, 599: api.ErrForm, 99: api.ErrRange, 600: api.ErrRange} {
		if got := msg.Wrong(api.Msg{Status: status, Path: "/"}); got != want {
			t.Errorf("Wrong of status %d with a path: %v comes, not %v", status, got, want)
		}
	}
}

func TestA1Wrong(t *testing.T) {
	long := "/" + strings.Repeat("a", api.MaxPath-1)
	line := strings.Repeat(" ", api.MaxLine)
	key := strings.Repeat("k", api.MaxKey)
	for i, c := range []struct {
		m    api.Msg
		want api.Errno
	}{
		{api.Msg{}, api.ErrForm},
		{api.Msg{Path: "/"}, api.OK},
		{api.Msg{Path: long}, api.OK},
		{api.Msg{Path: long + "a"}, api.ErrForm},
		{api.Msg{Path: "a"}, api.ErrForm},
		{api.Msg{Status: 200, Path: "a"}, api.ErrForm},
		{api.Msg{Status: 200, Path: long + "a"}, api.ErrForm},
		{api.Msg{Path: "/", Heads: []api.Head{}, Body: []byte{}}, api.OK},
		{api.Msg{Path: "/", Heads: heads(api.MaxHeads)}, api.OK},
		{api.Msg{Path: "/", Heads: heads(api.MaxHeads + 1)}, api.ErrMany},
		{api.Msg{Status: 200, Heads: heads(api.MaxHeads + 1)}, api.ErrMany},
		{api.Msg{Path: "/", Body: make([]byte, api.MaxBody)}, api.OK},
		{api.Msg{Path: "/", Body: make([]byte, api.MaxBody+1)}, api.ErrMuch},
		{api.Msg{Status: 200, Body: []byte("\x00\xff\n=")}, api.OK},
		{api.Msg{Path: "/", Heads: head(key, line)}, api.OK},
		{api.Msg{Path: "/", Heads: head(key+"k", line)}, api.ErrName},
		{api.Msg{Path: "/", Heads: head(key, line+" ")}, api.ErrName},
		{api.Msg{Path: "/", Heads: head("k", "a=b==")}, api.OK},
		{api.Msg{Path: "/", Heads: head("k", "")}, api.OK},
		{api.Msg{Path: "/", Heads: head("", "v")}, api.ErrName},
		{api.Msg{Path: "/", Heads: head("K", "v")}, api.ErrName},
		{api.Msg{Path: "/", Heads: head("k=", "v")}, api.ErrName},
		{api.Msg{Path: "/", Heads: head("k", "\n")}, api.ErrName},
		{api.Msg{Path: "/", Heads: head("k", "\x7f")}, api.ErrName},
		{api.Msg{Path: "/", Heads: head("k", "\x80")}, api.ErrName},
		{api.Msg{Path: "/", Heads: []api.Head{{Key: "k", Text: "v"}, {Key: "k", Text: "v"}}}, api.ErrName},
		{api.Msg{Path: "/", Heads: []api.Head{{Key: "k", Text: "v"}, {Key: "kk", Text: "v"}}}, api.OK},
		{api.Msg{Path: "/", Heads: append(heads(api.MaxHeads-1), api.Head{Key: "ka"})}, api.ErrName},
		{api.Msg{Path: "/", Heads: append(heads(api.MaxHeads-1), api.Head{Key: "kb"})}, api.ErrName},
		{api.Msg{Path: "/", Heads: append(heads(api.MaxHeads-1), api.Head{Key: "z", Text: "\t"})}, api.ErrName},
	} {
		if got := msg.Wrong(c.m); got != c.want {
			t.Errorf("%d: Wrong(%v): %v comes, not %v", i, c.m, got, c.want)
		}
	}
}

// TestA1WrongOrder: all is wrong at first, and is mended in the order in which it is told.
func TestA1WrongOrder(t *testing.T) {
	bad := append(heads(api.MaxHeads), api.Head{Key: "", Text: "\n"})
	m := api.Msg{Status: 600, Path: "/", Heads: bad, Body: make([]byte, api.MaxBody+1)}
	look := func(want api.Errno) {
		t.Helper()
		if got := msg.Wrong(m); got != want {
			t.Errorf("%v comes, not %v", got, want)
		}
	}
	look(api.ErrRange)
	m.Status = 599
	look(api.ErrForm)
	m.Path = ""
	look(api.ErrMany)
	m.Heads = bad[1:]
	look(api.ErrMuch)
	m.Body = m.Body[1:]
	look(api.ErrName)
	m.Heads = bad[:api.MaxHeads]
	look(api.OK)
}

func TestA1Same(t *testing.T) {
	if !msg.Same(api.Msg{}, api.Msg{Heads: []api.Head{}, Body: []byte{}}) {
		t.Error("nil is not the same as a list without entries")
	}
	if !msg.Same(whole(), whole()) {
		t.Error("a message is not the same as itself")
	}
	for name, change := range map[string]func(m *api.Msg){
		"status":    func(m *api.Msg) { m.Status++ },
		"path":      func(m *api.Msg) { m.Path = "/P" },
		"no path":   func(m *api.Msg) { m.Path = "" },
		"key":       func(m *api.Msg) { m.Heads[1].Key = "c" },
		"text":      func(m *api.Msg) { m.Heads[1].Text = "3" },
		"order":     func(m *api.Msg) { m.Heads[0], m.Heads[1] = m.Heads[1], m.Heads[0] },
		"fewer":     func(m *api.Msg) { m.Heads = m.Heads[:1] },
		"more":      func(m *api.Msg) { m.Heads = append(m.Heads, api.Head{}) },
		"no heads":  func(m *api.Msg) { m.Heads = nil },
		"byte":      func(m *api.Msg) { m.Body[2]++ },
		"shorter":   func(m *api.Msg) { m.Body = m.Body[:2] },
		"longer":    func(m *api.Msg) { m.Body = append(m.Body, 0) },
		"no body":   func(m *api.Msg) { m.Body = nil },
		"end moved": func(m *api.Msg) { m.Heads[0] = api.Head{Key: "a1"} },
	} {
		m := whole()
		change(&m)
		if msg.Same(m, whole()) || msg.Same(whole(), m) {
			t.Errorf("%s: another one is the same", name)
		}
	}
}

func TestA1Own(t *testing.T) {
	m, behind, body := roomy()
	x := msg.Own(m)
	if !reflect.DeepEqual(x, whole()) {
		t.Fatalf("%v comes", x)
	}
	scribble(x)
	if want, wantBehind, wantBody := roomy(); !reflect.DeepEqual(m, want) || !reflect.DeepEqual(behind, wantBehind) || string(body) != string(wantBody) {
		t.Errorf("a change of the copy, or of its spare room, shows: %v, %v, %q", m, behind, body)
	}
	if x := msg.Own(api.Msg{}); !msg.Same(x, api.Msg{}) {
		t.Errorf("%v comes of nothing", x)
	}
}

// scribble changes all of a message's lists, and the spare room behind them.
func scribble(m api.Msg) {
	for i := range m.Heads[:cap(m.Heads)] {
		m.Heads[:cap(m.Heads)][i] = api.Head{Key: "x", Text: "x"}
	}
	for i := range m.Body[:cap(m.Body)] {
		m.Body[:cap(m.Body)][i] = 'X'
	}
}
