package msg_test

import (
	"math"
	"reflect"
	"regexp"
	"strconv"
	"strings"
	"testing"

	"sieveworks/api"
	"sieveworks/msg"
)

// rights are right messages with the texts that they are written as.
func rights() map[string]api.Msg {
	path := "/" + strings.Repeat("a", api.MaxPath-1)
	key := strings.Repeat("k", api.MaxKey)
	line := strings.Repeat("=", api.MaxLine)
	body := strings.Repeat("\n", api.MaxBody)
	return map[string]api.Msg{
		"ask /\n\n":                                     {Path: "/"},
		"ask /a\nk=v w\n\none\ntwo":                     {Path: "/a", Heads: head("k", "v w"), Body: []byte("one\ntwo")},
		"ask /a/9\nk=v=w\nq=\n\nx\n\ny":                 {Path: "/a/9", Heads: []api.Head{{Key: "k", Text: "v=w"}, {Key: "q"}}, Body: []byte("x\n\ny")},
		"ask /a\nz==\na= \n\n":                          {Path: "/a", Heads: []api.Head{{Key: "z", Text: "="}, {Key: "a", Text: " "}}},
		"ask " + path + "\n\n":                          {Path: path},
		"say 100\n\n":                                   {Status: 100},
		"say 599\n\n\n":                                 {Status: 599, Body: []byte("\n")},
		"say 200\nk=~\n\n\x00\xff=\n":                   {Status: 200, Heads: head("k", "~"), Body: []byte("\x00\xff=\n")},
		"say 404\n\nask /a\nk=v\n\n":                    {Status: 404, Body: []byte("ask /a\nk=v\n\n")},
		"say 200\n" + key + "=\n\n":                     {Status: 200, Heads: head(key, "")},
		"ask /\nk=" + line + "\n\n":                     {Path: "/", Heads: head("k", line)},
		"ask /\n\n" + body:                              {Path: "/", Body: []byte(body)},
		"say 500\nka=v\nkb=v\nkc=v\n\nx":                {Status: 500, Heads: heads(3), Body: []byte("x")},
		"ask /\nka=v\nkb=v\nkc=v\nkd=v\nke=v\nkf=v\n\n": {Path: "/", Heads: heads(api.MaxHeads)},
	}
}

func TestA2TextAndParse(t *testing.T) {
	for s, m := range rights() {
		if got, err := msg.Text(m); got != s || err != api.OK {
			t.Errorf("Text(%v): %q, %v comes, not %q", m, got, err, s)
		}
		if got, err := msg.Parse(s); !msg.Same(got, m) || err != api.OK {
			t.Errorf("Parse(%q): %v, %v comes, not %v", s, got, err, m)
		}
	}
	for n := 100; n <= 599; n++ {
		s := "say " + strconv.Itoa(n) + "\n\n"
		if got, err := msg.Text(api.Msg{Status: n}); got != s || err != api.OK {
			t.Errorf("Text of status %d: %q, %v comes", n, got, err)
		}
		if got, err := msg.Parse(s); !msg.Same(got, api.Msg{Status: n}) || err != api.OK {
			t.Errorf("Parse(%q): %v, %v comes", s, got, err)
		}
	}
}

func TestA2TextOfWrong(t *testing.T) {
	for i, m := range []api.Msg{
		{}, {Status: 99}, {Status: 600}, {Status: -1}, {Status: 200, Path: "/"}, {Path: "/A"},
		{Path: "/", Heads: heads(api.MaxHeads + 1)}, {Path: "/", Body: make([]byte, api.MaxBody+1)},
		{Path: "/", Heads: head("k=", "v")}, {Path: "/", Heads: head("k", "v\n")}, {Path: "/", Heads: append(heads(2), heads(1)...)},
	} {
		if s, err := msg.Text(m); s != "" || err == api.OK || err != msg.Wrong(m) {
			t.Errorf("%d: Text(%v): %q, %v comes, not %v", i, m, s, err, msg.Wrong(m))
		}
	}
}

func TestA2ParseOfWrong(t *testing.T) {
	many := strings.Repeat("k=v\n", api.MaxHeads+1)
	much := strings.Repeat("x", api.MaxBody+1)
	for s, want := range map[string]api.Errno{
		"": api.ErrForm, "\n": api.ErrForm, "\n\n": api.ErrForm, "ask": api.ErrForm, "ask\n\n": api.ErrForm, "ask \n\n": api.ErrForm,
		"ask /a": api.ErrForm, "ask /a\n": api.ErrForm, "ask /a\nk=v": api.ErrForm, "ask /a\nk=v\n": api.ErrForm,
		"ask  /a\n\n": api.ErrForm, "ask /a \n\n": api.ErrForm, "ask a\n\n": api.ErrForm, "asks /a\n\n": api.ErrForm, "Ask /a\n\n": api.ErrForm,
		" ask /a\n\n": api.ErrForm, "\nask /a\n\n": api.ErrForm, "ask /a\r\n\r\n": api.ErrForm, "ask\t/a\n\n": api.ErrForm,
		"ask /" + strings.Repeat("a", api.MaxPath) + "\n\n": api.ErrForm,
		"ask /a\nkv\n\n": api.ErrForm, "ask /a\n \n\n": api.ErrForm, "ask /a\nk=v\nkv\n\n": api.ErrForm,
		"say\n\n": api.ErrForm, "say \n\n": api.ErrForm, "say x\n\n": api.ErrForm, "say 200": api.ErrForm, "say 200\n": api.ErrForm,
		"say 0\n\n": api.ErrForm, "say -0\n\n": api.ErrForm, "say 00\n\n": api.ErrForm, "say 0200\n\n": api.ErrForm, "say +200\n\n": api.ErrForm, "say -0200\n\n": api.ErrForm,
		"say  200\n\n": api.ErrForm, "say 200 \n\n": api.ErrForm, "say 2_00\n\n": api.ErrForm, "say 0xc8\n\n": api.ErrForm, "say 2e2\n\n": api.ErrForm, "say 200.\n\n": api.ErrForm,
		"say 200 /a\n\n": api.ErrForm, "say /a\n\n": api.ErrForm, "ask 200\n\n": api.ErrForm, "say -\n\n": api.ErrForm, "say --5\n\n": api.ErrForm,
		"say 99999999999999999999\n\n": api.ErrForm, "say 9223372036854775808\n\n": api.ErrForm,
		"say 1\n\n": api.ErrRange, "say 99\n\n": api.ErrRange, "say 600\n\n": api.ErrRange, "say -5\n\n": api.ErrRange, "say -200\n\n": api.ErrRange,
		"say " + strconv.Itoa(math.MaxInt) + "\n\n": api.ErrRange, "say " + strconv.Itoa(math.MinInt) + "\n\n": api.ErrRange,
		"ask /a\n" + many + "\n": api.ErrMany, "ask /a\n" + strings.Repeat(many, 99) + "\n" + much: api.ErrMany, "ask /a\n\n" + much: api.ErrMuch,
		"ask /a\n=v\n\n": api.ErrName, "ask /a\n=\n\n": api.ErrName, "ask /a\nK=v\n\n": api.ErrName, "ask /a\n k=v\n\n": api.ErrName, "ask /a\nk =v\n\n": api.ErrName,
		"ask /a\nk=v\nk=w\n\n": api.ErrName, "ask /a\nk=v\r\n\n": api.ErrName, "ask /a\nk=\x80\n\n": api.ErrName,
		"ask /a\nabcdefghi=v\n\n": api.ErrName, "ask /a\nk=" + strings.Repeat("v", api.MaxLine+1) + "\n\n": api.ErrName,
		// the form comes first, whatever else is wrong
		"say 600\nkv\n\n": api.ErrForm, "say 600\n": api.ErrForm, "ask /a\n" + many: api.ErrForm, "ask /a\n" + many + "kv\n\n": api.ErrForm, "ask /a\nK=v\nkv\n\n": api.ErrForm,
		"say 600\n" + many + "\n" + much: api.ErrRange, "ask a\n" + many + "\n" + much: api.ErrForm, "ask /a\n=\n\n" + much: api.ErrMuch,
	} {
		if m, err := msg.Parse(s); !msg.Same(m, api.Msg{}) || err != want {
			t.Errorf("Parse(%q): %v, %v comes, not %v", s, m, err, want)
		}
	}
}

// written is what the document says of texts, told in another way.
var written = regexp.MustCompile(`^(?s:(?:ask ([^\n]*)|say (-?[1-9][0-9]*))\n(?:[^\n=]*=[^\n]*\n)*\n.*)$`)

// formed tells whether s is written as it must be; an ask without a path is told as one that is not.
func formed(s string) bool {
	parts := written.FindStringSubmatch(s)
	if parts == nil {
		return false
	}
	if parts[2] == "" {
		return msg.Path(parts[1])
	}
	_, err := strconv.Atoi(parts[2])
	return err == nil
}

// checkParse holds what Parse answers against the form, and against what Text writes.
func checkParse(t *testing.T, s string) {
	t.Helper()
	m, err := msg.Parse(s)
	if formed(s) != (err != api.ErrForm) {
		t.Errorf("Parse(%q): %v comes", s, err)
	}
	if err != api.OK {
		if !msg.Same(m, api.Msg{}) {
			t.Errorf("Parse(%q): %v comes beside %v", s, m, err)
		}
		return
	}
	if back, err := msg.Text(m); back != s || err != api.OK {
		t.Errorf("Parse(%q) is written as %q, %v", s, back, err)
	}
}

// TestA2ParseOfPieces tries all texts of few pieces.
func TestA2ParseOfPieces(t *testing.T) {
	pieces := []string{"ask ", "say ", "/", "k", "0", "200", "-", "+", "=", " ", "\n"}
	texts := []string{""}
	for range 5 {
		var longer []string
		for _, s := range texts {
			checkParse(t, s)
			for _, p := range pieces {
				longer = append(longer, s+p)
			}
		}
		texts = longer
	}
	for _, s := range texts {
		checkParse(t, s)
		checkParse(t, "ask /\n"+s)
	}
}

// TestA2ParseOfDamaged tries right texts of which a byte is left out, doubled or another one.
func TestA2ParseOfDamaged(t *testing.T) {
	for s := range rights() {
		for i := range len(s) {
			checkParse(t, s[:i])
			checkParse(t, s[:i]+s[i+1:])
			checkParse(t, s[:i]+s[i:i+1]+s[i:])
			for b := range 256 {
				checkParse(t, s[:i]+string([]byte{byte(b)})+s[i+1:])
			}
		}
	}
}

func TestA2Get(t *testing.T) {
	m := api.Msg{Heads: []api.Head{{Key: "a", Text: "1"}, {Key: "b"}, {Key: "a", Text: "2"}, {Key: "B!", Text: "odd"}, {Text: "none"}}}
	for key, want := range map[string]string{"a": "1", "b": "", "B!": "odd", "": "none"} {
		if got, ok := msg.Get(m, key); got != want || !ok {
			t.Errorf("Get of %q: %q, %v comes", key, got, ok)
		}
	}
	for _, key := range []string{"c", "aa", "A", "B", "1"} {
		if got, ok := msg.Get(m, key); got != "" || ok {
			t.Errorf("Get of %q: %q, %v comes", key, got, ok)
		}
	}
	if got, ok := msg.Get(api.Msg{}, ""); got != "" || ok {
		t.Errorf("Get of nothing: %q, %v comes", got, ok)
	}
}

func TestA2Set(t *testing.T) {
	full, more := heads(api.MaxHeads), heads(api.MaxHeads+1)
	changed := heads(api.MaxHeads)
	changed[api.MaxHeads-1].Text = "new"
	for i, c := range []struct {
		heads     []api.Head
		key, text string
		want      []api.Head
	}{
		{nil, "k", "v", head("k", "v")},
		{[]api.Head{}, "", "", head("", "")},
		{head("k", "v"), "k", "w", head("k", "w")},
		{head("k", "v"), "k", "", head("k", "")},
		{head("k", "v"), "l", "w", []api.Head{{Key: "k", Text: "v"}, {Key: "l", Text: "w"}}},
		{[]api.Head{{Key: "a"}, {Key: "k", Text: "1"}, {Key: "k", Text: "2"}}, "k", "3", []api.Head{{Key: "a"}, {Key: "k", Text: "3"}, {Key: "k", Text: "2"}}},
		{head("k", "v"), "K!", "a\nb", []api.Head{{Key: "k", Text: "v"}, {Key: "K!", Text: "a\nb"}}},
		{full[:api.MaxHeads-1], "kf", "v", full},
		{full, "kg", "v", full},
		{full, "kf", "new", changed},
		{more, "zz", "v", more},
		{more, "kg", "v", more},
	} {
		m := api.Msg{Status: 7, Path: "p", Heads: c.heads, Body: []byte("b")}
		got := msg.Set(m, c.key, c.text)
		if want := (api.Msg{Status: 7, Path: "p", Heads: c.want, Body: []byte("b")}); !msg.Same(got, want) {
			t.Errorf("%d: %v comes, not %v", i, got, want)
		}
	}
}

// TestA2SetOnlyReads: what was handed in, and the spare room behind it, is as it was, whatever becomes of the answer.
func TestA2SetOnlyReads(t *testing.T) {
	for _, key := range []string{"a", "b", "new"} {
		m, behind, body := roomy()
		x := msg.Set(m, key, "set")
		if got, ok := msg.Get(x, key); got != "set" || !ok {
			t.Errorf("%q: %q, %v comes", key, got, ok)
		}
		scribble(x)
		if want, wantBehind, wantBody := roomy(); !reflect.DeepEqual(m, want) || !reflect.DeepEqual(behind, wantBehind) || string(body) != string(wantBody) {
			t.Errorf("%q: a change shows: %v, %v, %q", key, m, behind, body)
		}
	}
	m := api.Msg{Heads: heads(api.MaxHeads)}
	scribble(msg.Set(m, "new", "set"))
	if !reflect.DeepEqual(m.Heads, heads(api.MaxHeads)) {
		t.Errorf("of a full one a change shows: %v", m)
	}
}

func TestA2Answer(t *testing.T) {
	long := strings.Repeat("\n", 2*api.MaxBody)
	for _, status := range []int{0, 1, 100, 404, 599, 600, -1, math.MinInt} {
		for _, text := range []string{"", "gone", "a\nb", "\x00\xff", long} {
			if got := msg.Answer(status, text); !msg.Same(got, api.Msg{Status: status, Body: []byte(text)}) {
				t.Errorf("Answer(%d, %q): %v comes", status, text, got)
			}
		}
	}
}

func FuzzA2Parse(f *testing.F) {
	for s := range rights() {
		f.Add(s)
	}
	f.Fuzz(checkParse)
}
